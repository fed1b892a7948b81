/- The contract of ids.blend. -/
import Derived.Test.YtdblfabbmpdoiaaGreatPart4
import Derived.Test.YtdblfabbmpdoiaaGreatIdLay
import Derived.Deep.LoopGhost
import Derived.Deep.RegionHeld3
import Derived.Deep.DeepCutAuto
namespace Go.Proofs.YtdblfabbmpdoiaaGreat
open Go.RowKit Go.Maps
set_option linter.unusedVariables false
set_option linter.unusedSimpArgs false
set_option maxRecDepth 100000

/-- A row is none of a slice of turns. -/
theorem OwnT.apart {W w : World} {v : Value} {n : Nat} {xs : List Value} (h : OwnT W w v n xs) {r : Nat} {x : Tn} {rv : Value} (hr : w.heap[r]? = some (rwO x rv)) : v.ownBlock ≠ some r := by
  intro e
  rcases h.owns.2 with ⟨e', h0⟩ | ⟨g, cap, cur, e', hb, hg, _⟩
  · rw [e'] at e; simp [Value.ownBlock] at e
  · rw [e'] at e
    simp only [Value.ownBlock, Option.some.injEq] at e
    subst e
    rw [hr] at hg
    simp only [Option.some.injEq, Obj.cells.injEq] at hg
    exact absurd hg.2.1 (by decide)
theorem OwnT.row {W w w' : World} {v : Value} {n : Nat} {xs : List Value} (h : OwnT W w v n xs) {r : Nat} {x : Tn} {rv : Value} (hr : w.heap[r]? = some (rwO x rv)) (hn : W.heap.size ≤ r) (t : Touch (fun k => k = r) w w') : OwnT W w' v n xs :=
  ⟨ownT_touch h.owns t (fun k hk e => h.apart hr (e ▸ hk)), h.touch.then t (fun k hk e => by omega), h.fresh⟩
/-- All that the loop holds. -/
structure Held (p : Int → Int → Int) (w : World) (A0 B0 : List Tn) (r1 r2 : Nat) (wx : World) (s7 : Value) (out A B : List Tn) : Prop where
  bl : Blend p A0 B0 out A B
  ra : Rw w wx r1 A
  rb : Rw w wx r2 B
  nw : NewT w wx s7 out
theorem Held.on {p : Int → Int → Int} {w : World} {A0 B0 : List Tn} {r1 r2 : Nat} {wx wy : World} {s7 : Value} {out A B : List Tn} (h : Held p w A0 B0 r1 r2 wx s7 out A B) (t : Touch (fun _ => False) wx wy) : Held p w A0 B0 r1 r2 wy s7 out A B :=
  ⟨h.bl, h.ra.on t id, h.rb.on t id, h.nw.on t⟩
/-- What lies in the midst of a round. -/
structure Mid (w : World) (r1 r2 Bt : Nat) (s7 : Value) (out : List Tn) (c k : Int) (A B : List Tn) (W : World) : Prop where
  ra : Rw w W r1 A
  rb : Rw w W r2 B
  nw : NewT w W s7 out
  bx : W.heap[Bt]? = some (idO c k)
  d1 : r1 ≠ r2
  d2 : Bt ≠ r1
  d3 : Bt ≠ r2
theorem Mid.on {w : World} {r1 r2 Bt : Nat} {s7 : Value} {out : List Tn} {c k : Int} {A B : List Tn} {W W' : World} (h : Mid w r1 r2 Bt s7 out c k A B W) (t : Touch (fun _ => False) W W') : Mid w r1 r2 Bt s7 out c k A B W' :=
  ⟨h.ra.on t id, h.rb.on t id, h.nw.on t, (t.block _ (lt_of_heap h.bx) id).trans h.bx, h.d1, h.d2, h.d3⟩
theorem Mid.cells {w : World} {r1 r2 Bt : Nat} {s7 : Value} {out : List Tn} {c k : Int} {A B : List Tn} {W : World} (h : Mid w r1 r2 Bt s7 out c k A B W) : W.cell? ⟨Bt, 0, none⟩ = some (u64 c) ∧ W.cell? ⟨Bt, 1, none⟩ = some (u64 k) :=
  ⟨by rw [cell_of_block h.bx]; rfl, by rw [cell_of_block h.bx]; rfl⟩
theorem Mid.takeA {w : World} {r1 r2 Bt : Nat} {s7 : Value} {out : List Tn} {c k : Int} {A B : List Tn} {W : World} (h : Mid w r1 r2 Bt s7 out c k A B W) (tz : Int) (hl : A.length ≤ 1073741824) (hc : c ≤ 9007199254740991) (hto : tz ≤ chg (hd A) c k) :
    Calls Tryz.prog 86 #[rp r1, idV c k, u64 tz] W fun e w' => ∃ A' n, e = .returned (u64 n) ∧ Took A A' c k tz n ∧ Mid w r1 r2 Bt s7 out c k A' B w' := by
  refine (take_any w A r1 c k tz W h.ra h.nw.touch hl hc hto).mono ?_
  rintro e w' ⟨A', n, rfl, q, hr, t⟩
  obtain ⟨rv, hx, _⟩ := h.ra.ex
  exact ⟨A', n, rfl, q, hr, h.rb.on t (fun e => h.d1 e.symm), h.nw.row hx h.ra.new t, (t.block _ (lt_of_heap h.bx) h.d2).trans h.bx, h.d1, h.d2, h.d3⟩
theorem Mid.takeB {w : World} {r1 r2 Bt : Nat} {s7 : Value} {out : List Tn} {c k : Int} {A B : List Tn} {W : World} (h : Mid w r1 r2 Bt s7 out c k A B W) (tz : Int) (hl : B.length ≤ 1073741824) (hc : c ≤ 9007199254740991) (hto : tz ≤ chg (hd B) c k) :
    Calls Tryz.prog 86 #[rp r2, idV c k, u64 tz] W fun e w' => ∃ B' n, e = .returned (u64 n) ∧ Took B B' c k tz n ∧ Mid w r1 r2 Bt s7 out c k A B' w' := by
  refine (take_any w B r2 c k tz W h.rb h.nw.touch hl hc hto).mono ?_
  rintro e w' ⟨A', n, rfl, q, hr, t⟩
  obtain ⟨rv, hx, _⟩ := h.rb.ex
  exact ⟨A', n, rfl, q, h.ra.on t h.d1, hr, h.nw.row hx h.rb.new t, (t.block _ (lt_of_heap h.bx) h.d3).trans h.bx, h.d1, h.d2, h.d3⟩
theorem lay_len (l : List Tn) (t : Tn) : (lay l t).length ≤ l.length + 1 := by
  induction l with
  | nil => unfold lay; split <;> simp
  | cons x l ih =>
    cases l with
    | nil => unfold lay; split; · simp
             · split <;> simp
    | cons y l => rw [lay, List.length_cons, List.length_cons]; omega

set_option maxHeartbeats 4000000 in
theorem blend_any (w : World) (A0 B0 : List Tn) (va vb : Value) (G : Nat) (p : Int → Int → Int) (hp : Pick p) (eG : ∀ args w, (callFunc G args).run Tryz.prog w = .ok (.enter G args) w)
    (hG : ∀ x y W, Calls Tryz.prog G #[u64 x, u64 y] W fun e w' => e = .returned (u64 (p x y)) ∧ w' = W) (hA : SlT w va A0) (hB : SlT w vb B0) (cA : Canon A0) (cB : Canon B0) (lA : A0.length ≤ 134217728) (lB : B0.length ≤ 134217728) :
    Calls Tryz.prog 65 #[va, vb, .func (.func G) #[] #[]] w fun e w' => ∃ v' out, e = .returned v' ∧ NewT w w' v' out ∧ Form out (fun c k => p (val A0 c k) (val B0 c k)) ∧ out.length ≤ 2 * (A0.length + B0.length) + 1 := by
  have R1 := rowOf_any w A0 va w (Touch.refl _ _) hA (by omega)
  have R2 := fun W (t : Touch (fun _ => False) w W) => rowOf_any w B0 vb W t hB (by omega)
  have HP : Hid (Pick p) := hp
  have hmu := mu_le A0 B0
  have HC : Hid (Canon A0 ∧ Canon B0) := ⟨cA, cB⟩
  obtain ⟨aoa, capa, rfl, _⟩ := hA
  obtain ⟨aob, capb, rfl, _⟩ := hB
  clear hp cA cB
  go_enter Tryz.func65, Tryz.ntmps65
  go_wp2_with fail
  refine R1.mono ?_
  rintro e w1 ⟨rfl, hr1, t1⟩
  have R2' := R2 w1 t1
  have HR1 : Hid (Rw w w1 w.heap.size A0 ∧ Touch (fun _ => False) w w1) := ⟨hr1, t1⟩
  clear hr1 t1 R1 R2
  go_wp2_with fail
  refine R2'.mono ?_
  rintro e w2 ⟨rfl, hr2, t2⟩
  have H0 : Hid (Held p w A0 B0 w.heap.size w1.heap.size w2 (.slice none 0 0) [] A0 B0) := ⟨Blend.start HC.out.1 HC.out.2, HR1.out.1.on t2 id, hr2, NewT.nil w w2 (HR1.out.2.trans t2)⟩
  clear hr2 t2 R2'
  have hr12 : w.heap.size ≠ w1.heap.size := Nat.ne_of_lt (HR1.out.1.lt)
  clear HR1
  generalize w.heap.size = r1 at *
  generalize w1.heap.size = r2 at *
  go_wp2_with fail
  go_loopg [7] (mu A0 B0) (fun g s7 wx => ∃ A B out, g = mu A B ∧ Hid (Held p w A0 B0 r1 r2 wx s7 out A B) ∧ out.length + mu A B ≤ mu A0 B0 ∧ A.length ≤ A0.length ∧ B.length ≤ B0.length ∧ ∃ ao cap, s7 = .slice ao out.length cap)
  case atStart => exact ⟨A0, B0, [], rfl, H0, by simp, Nat.le_refl _, Nat.le_refl _, ⟨_, _, rfl⟩⟩
  case round =>
    obtain ⟨A, B, out, rfl, H, hlen, hla, hlb, ⟨ao, cap, rfl⟩⟩ := hrel
    obtain ⟨rv1, hc1, hs1⟩ := H.out.ra.ex
    obtain ⟨rv2, hc2, hs2⟩ := H.out.rb.ex
    have HM1 : Hid (∀ b W, ((b = true ∧ A ≠ []) ∨ (b = false ∧ A = [])) → Touch (fun _ => False) wr W → Calls Tryz.prog 82 #[rp r1] W fun e w' => e = .returned (.bool b) ∧ Touch (fun _ => False) wr w') := fun b W hb t => by
      refine (more_any (hd A) rv1 r1 W (Rw.of (W0 := w) hc1 t id) b ?_).mono fun e w' q => ⟨q.1, t.trans q.2⟩
      rcases hb with ⟨rfl, h⟩ | ⟨rfl, rfl⟩
      · refine .inl ⟨rfl, ?_⟩
        rcases H.out.bl.ca.hd_ok with ⟨e, _⟩ | ⟨x, l, e, hx, hxo⟩
        · exact absurd e h
        · have := Tn.ok_iff.1 hxo; rw [hx]; omega
      · exact .inr ⟨rfl, rfl⟩
    have HM2 : Hid (∀ b W, ((b = true ∧ B ≠ []) ∨ (b = false ∧ B = [])) → Touch (fun _ => False) wr W → Calls Tryz.prog 82 #[rp r2] W fun e w' => e = .returned (.bool b) ∧ Touch (fun _ => False) wr w') := fun b W hb t => by
      refine (more_any (hd B) rv2 r2 W (Rw.of (W0 := w) hc2 t id) b ?_).mono fun e w' q => ⟨q.1, t.trans q.2⟩
      rcases hb with ⟨rfl, h⟩ | ⟨rfl, rfl⟩
      · refine .inl ⟨rfl, ?_⟩
        rcases H.out.bl.cb.hd_ok with ⟨e, _⟩ | ⟨x, l, e, hx, hxo⟩
        · exact absurd e h
        · have := Tn.ok_iff.1 hxo; rw [hx]; omega
      · exact .inr ⟨rfl, rfl⟩
    clear hc1 hc2 hs1 hs2
    go_upto_region 3 with fail
    go_cut [22] (fun t wx => Hid ((t = .bool true ∧ ¬ (A = [] ∧ B = [])) ∨ (t = .bool false ∧ A = [] ∧ B = [])) ∧ Hid (Touch (fun _ => False) wr wx))
    case first =>
      by_cases ha : A = []
      · have M1 := HM1.out false wr (.inr ⟨rfl, ha⟩) (Touch.refl _ _)
        by_cases hb : B = []
        · go_wp2_with fail
          refine M1.mono ?_
          rintro e w3 ⟨rfl, t3⟩
          have M2 := HM2.out false w3 (.inr ⟨rfl, hb⟩) t3
          go_wp2_with fail
          refine M2.mono ?_
          rintro e w4 ⟨rfl, t4⟩
          go_wp2_with fail
          go_meet
          case rel => exact ⟨.inr ⟨rfl, ha, hb⟩, t4⟩
        · go_wp2_with fail
          refine M1.mono ?_
          rintro e w3 ⟨rfl, t3⟩
          have M2 := HM2.out true w3 (.inl ⟨rfl, hb⟩) t3
          go_wp2_with fail
          refine M2.mono ?_
          rintro e w4 ⟨rfl, t4⟩
          go_wp2_with fail
          go_meet
          case rel => exact ⟨.inl ⟨rfl, fun q => hb q.2⟩, t4⟩
      · have M1 := HM1.out true wr (.inl ⟨rfl, ha⟩) (Touch.refl _ _)
        go_wp2_with fail
        refine M1.mono ?_
        rintro e w3 ⟨rfl, t3⟩
        go_wp2_with fail
        go_meet
        case rel => exact ⟨.inl ⟨rfl, fun q => ha q.1⟩, t3⟩
    case rest =>
      clear HM1 HM2
      obtain ⟨hc22, hcT⟩ := hcut
      rcases hc22.out with ⟨rfl, hne⟩ | ⟨rfl, rfl, rfl⟩
      · have HH : Hid (Held p w A0 B0 r1 r2 wc (.slice ao out.length cap) out A B ∧ ¬ (A = [] ∧ B = [])) := ⟨H.out.on hcT.out, hne⟩
        clear H hcT hc22 hne
        obtain ⟨wd, hwd⟩ : ∃ wd, wd = wc := ⟨_, rfl⟩
        subst hwd
        have HS1 : Hid (∀ W, Touch (fun _ => False) wd W → Calls Tryz.prog 83 #[rp r1] W fun e w' => e = .returned (idV (hd A).c (hd A).f) ∧ Touch (fun _ => False) wd w') := fun W t => by
          obtain ⟨rv1, hc1, hs1⟩ := HH.out.1.ra.ex
          exact (start_any (hd A) rv1 r1 W (Rw.of (W0 := w) hc1 t id)).mono fun e w' q => ⟨q.1, t.trans q.2⟩
        have HS2 : Hid (∀ W, Touch (fun _ => False) wd W → Calls Tryz.prog 83 #[rp r2] W fun e w' => e = .returned (idV (hd B).c (hd B).f) ∧ Touch (fun _ => False) W w') := fun W t => by
          obtain ⟨rv2, hc2, hs2⟩ := HH.out.1.rb.ex
          exact start_any (hd B) rv2 r2 W (Rw.of (W0 := w) hc2 t id)
        have S1 := HS1.out wd (Touch.refl _ _)
        go_upto_region 4 with fail
        go_cut [10] (fun t wx => ∃ Bt, t = .pointer (some ⟨Bt, 0, none⟩) ∧ Hid (Touch (fun _ => False) wd wx ∧ wd.heap.size ≤ Bt ∧ wx.heap[Bt]? = some (idO (hd A).c (hd A).f)))
        case first =>
          go_wp2_with fail
          refine S1.mono ?_
          rintro e w3 ⟨rfl, t3⟩
          have T3 : Hid (Touch (fun _ => False) wd w3) := t3
          clear t3
          go_wp2_with fail
          go_meet
          case rel => exact ⟨w3.heap.size, rfl, ⟨T3.out.alloc _, T3.out.size, heap_alloc_new w3 _⟩⟩
        case rest =>
          obtain ⟨Bt, rfl, HB⟩ := hcut
          clear S1 HS1
          obtain ⟨we, hwe⟩ : ∃ we, we = wc := ⟨_, rfl⟩
          subst hwe
          have HK : Hid (∀ W, Touch (fun _ => False) we W → W.cell? ⟨Bt, 0, none⟩ = some (u64 (hd A).c) ∧ W.cell? ⟨Bt, 1, none⟩ = some (u64 (hd A).f)) := fun W t => by
            have := (t.block _ (lt_of_heap HB.out.2.2) id).trans HB.out.2.2
            exact ⟨by rw [cell_of_block this]; rfl, by rw [cell_of_block this]; rfl⟩
          have S0 := HK.out we (Touch.refl _ _)
          have S1 := HK.out we.drew (Touch.refl _ _).drew
          have C1 := HS2.out we HB.out.1
          have C2 := HS2.out we.drew HB.out.1.drew
          have HL : ∀ W, Calls Tryz.prog 84 #[idV (hd B).c (hd B).f, idV (hd A).c (hd A).f] W fun e w' => e = .returned (.bool (lessI (hd B).c (hd B).f (hd A).c (hd A).f)) ∧ Touch (fun _ => False) W w' := fun W => (less_any _ _ _ _ W).mono fun e w' q => ⟨q.1, by rw [q.2]; exact ((Touch.refl _ W).alloc _).alloc _⟩
          obtain ⟨lb, hlbb⟩ : ∃ lb, lb = lessI (hd B).c (hd B).f (hd A).c (hd A).f := ⟨_, rfl⟩
          rw [← hlbb] at HL
          have HLB : Hid (lb = lessI (hd B).c (hd B).f (hd A).c (hd A).f) := hlbb
          clear hlbb
          go_upto_region 5 with fail
          go_cut [28] (fun t wx => t = .bool lb ∧ Hid (Touch (fun _ => False) we wx))
          case first =>
            go_wp2_with fail
            go_region_held3 (fun W => W.cell? ⟨Bt, 0, none⟩ = some (u64 (hd A).c) ∧ W.cell? ⟨Bt, 1, none⟩ = some (u64 (hd A).f)) (first | assumption)
              (first | (go_at_call 83; first | ((with_reducible refine C1.mono ?_); rintro e w3 ⟨rfl, t3⟩; have S3 := HK.out w3 t3; have T3 : Hid (Touch (fun _ => False) we w3) := t3; clear t3) | ((with_reducible refine C2.mono ?_); rintro e w3 ⟨rfl, t3⟩; have S3 := HK.out w3 ((Touch.refl _ we).drew.trans t3); have T3 : Hid (Touch (fun _ => False) we w3) := (Touch.refl _ we).drew.trans t3; clear t3)) | (go_at_call 84; (with_reducible refine (HL _).mono ?_); rintro e w4 ⟨rfl, t4⟩; have T4 : Hid (Touch (fun _ => False) we w4) := T3.out.trans t4; have S4 := HK.out w4 (T3.out.trans t4); clear t4))
            all_goals (try go_wp2_with fail)
            all_goals go_meet
            all_goals (case rel => exact ⟨rfl, T4.out⟩)
          case rest =>
            obtain ⟨rfl, hcT⟩ := hcut
            obtain ⟨wf, hwf⟩ : ∃ wf, wf = wc := ⟨_, rfl⟩
            subst hwf
            clear S0 S1 C1 C2 HL
            have HF : Hid (Touch (fun _ => False) wd wf ∧ wf.heap[Bt]? = some (idO (hd A).c (hd A).f)) := ⟨HB.out.1.trans hcT.out, (hcT.out.block _ (lt_of_heap HB.out.2.2) id).trans HB.out.2.2⟩
            have HBt : Hid (wd.heap.size ≤ Bt) := HB.out.2.1
            have hfr : ∀ i, wf.frozen? ⟨Bt, i, none⟩ = false := fun i => free_of_block HF.out.2
            have C1 := HS2.out wf HF.out.1
            clear HB HK hcT
            go_upto_if 28 with fail
            go_cut [30] (fun t wx => ∃ c k, Hid (Touch (fun _ => False) wd wx ∧ wx.heap[Bt]? = some (idO c k) ∧ ((lb = true ∧ c = (hd B).c ∧ k = (hd B).f) ∨ (lb = false ∧ c = (hd A).c ∧ k = (hd A).f))))
            case first =>
              cases lb with
              | true =>
                go_wp2_with fail
                refine C1.mono ?_
                rintro e w3 ⟨rfl, t3⟩
                have h3 : w3.heap[Bt]? = some (idO (hd A).c (hd A).f) := (t3.block _ (lt_of_heap HF.out.2) id).trans HF.out.2
                have k0 : w3.cell? ⟨Bt, 0, none⟩ = some (u64 (hd A).c) := by rw [cell_of_block h3]; rfl
                have k1 : w3.cell? ⟨Bt, 1, none⟩ = some (u64 (hd A).f) := by rw [cell_of_block h3]; rfl
                have f0 : w3.frozen? ⟨Bt, 0, none⟩ = false := free_of_block h3
                have f1 : w3.frozen? ⟨Bt, 1, none⟩ = false := free_of_block h3
                have HQ : Hid (Touch (fun _ => False) wd ((w3.setCell ⟨Bt, 0, none⟩ (u64 (hd B).c)).setCell ⟨Bt, 1, none⟩ (u64 (hd B).f)) ∧ ((w3.setCell ⟨Bt, 0, none⟩ (u64 (hd B).c)).setCell ⟨Bt, 1, none⟩ (u64 (hd B).f)).heap[Bt]? = some (idO (hd B).c (hd B).f)) := by
                  refine ⟨((HF.out.1.trans t3).setCell _ _ (fun h => absurd HBt.out (by simpa using h))).setCell _ _ (fun h => absurd HBt.out (by simpa using h)), ?_⟩
                  have := heap_setCell_same _ _ 1 (u64 (hd B).f) (heap_setCell_same _ _ 0 (u64 (hd B).c) h3)
                  exact this
                clear h3 t3
                go_wp2_with fail
                go_meet
                case rel => exact ⟨_, _, ⟨HQ.out.1, HQ.out.2, .inl ⟨by simp, rfl, rfl⟩⟩⟩
              | false =>
                go_wp2_with fail
                go_meet
                case rel => exact ⟨_, _, ⟨HF.out.1, HF.out.2, .inr ⟨by simp, rfl, rfl⟩⟩⟩
            case rest =>
              obtain ⟨c, k, HI⟩ := hcut
              obtain ⟨wg, hwg⟩ : ∃ wg, wg = wc := ⟨_, rfl⟩
              subst hwg
              clear C1 HF hfr HS2
              have HK : Hid (∀ W : World, wg.heap[Bt]? = W.heap[Bt]? → W.cell? ⟨Bt, 0, none⟩ = some (u64 c) ∧ W.cell? ⟨Bt, 1, none⟩ = some (u64 k)) := fun W t => by
                have := t.symm.trans HI.out.2.1
                exact ⟨by rw [cell_of_block this]; rfl, by rw [cell_of_block this]; rfl⟩
              have HKT : Hid (∀ W, Touch (fun _ => False) wg W → W.cell? ⟨Bt, 0, none⟩ = some (u64 c) ∧ W.cell? ⟨Bt, 1, none⟩ = some (u64 k)) := fun W t => HK.out W (t.block _ (lt_of_heap HI.out.2.1) id).symm
              have HG1 : Hid (∀ W, Touch (fun _ => False) wg W → Calls Tryz.prog 85 #[rp r1, idV c k] W fun e w' => e = .returned (u64 (chg (hd A) c k)) ∧ Touch (fun _ => False) wg w') := fun W t => by
                obtain ⟨rv1, hc1, hs1⟩ := HH.out.1.ra.ex
                exact (change_any (hd A) rv1 r1 c k W (Rw.of (W0 := w) hc1 (HI.out.1.trans t) id)).mono fun e w' q => ⟨q.1, t.trans q.2⟩
              have HG2 : Hid (∀ W, Touch (fun _ => False) wg W → Calls Tryz.prog 85 #[rp r2, idV c k] W fun e w' => e = .returned (u64 (chg (hd B) c k)) ∧ Touch (fun _ => False) wg w') := fun W t => by
                obtain ⟨rv2, hc2, hs2⟩ := HH.out.1.rb.ex
                exact (change_any (hd B) rv2 r2 c k W (Rw.of (W0 := w) hc2 (HI.out.1.trans t) id)).mono fun e w' q => ⟨q.1, t.trans q.2⟩
              have S0 := HKT.out wg (Touch.refl _ _)
              have S1 := HKT.out wg.drew (Touch.refl _ _).drew
              have T0 : Hid (Touch (fun _ => False) wg wg) := Touch.refl _ _
              obtain ⟨x1, hx1⟩ : ∃ x1, x1 = chg (hd A) c k := ⟨_, rfl⟩
              obtain ⟨x2, hx2⟩ : ∃ x2, x2 = chg (hd B) c k := ⟨_, rfl⟩
              have HX : Hid (x1 = chg (hd A) c k ∧ x2 = chg (hd B) c k) := ⟨hx1, hx2⟩
              rw [← hx1] at HG1
              rw [← hx2] at HG2
              clear hx1 hx2
              go_upto_region 7 with fail
              go_cut [11] (fun t wx => ∃ tz, t = u64 tz ∧ Hid (tz = min x1 x2) ∧ Hid (Touch (fun _ => False) wg wx))
              case first =>
                go_wp2_with fail
                go_region_held3 (fun W => W.cell? ⟨Bt, 0, none⟩ = some (u64 c) ∧ W.cell? ⟨Bt, 1, none⟩ = some (u64 k)) (first | assumption)
                  (first | (go_at_call 85; first | ((with_reducible refine (HG1.out _ T0.out).mono ?_); rintro e w3 ⟨rfl, t3⟩; have S3 := HKT.out w3 t3; clear T0; have T0 : Hid (Touch (fun _ => False) wg w3) := t3; clear t3) | ((with_reducible refine (HG1.out _ T0.out.drew).mono ?_); rintro e w3 ⟨rfl, t3⟩; have S3 := HKT.out w3 t3; clear T0; have T0 : Hid (Touch (fun _ => False) wg w3) := t3; clear t3) | ((with_reducible refine (HG2.out _ T0.out).mono ?_); rintro e w4 ⟨rfl, t3⟩; have S4 := HKT.out w4 t3; clear T0; have T0 : Hid (Touch (fun _ => False) wg w4) := t3; clear t3) | ((with_reducible refine (HG2.out _ T0.out.drew).mono ?_); rintro e w4 ⟨rfl, t3⟩; have S4 := HKT.out w4 t3; clear T0; have T0 : Hid (Touch (fun _ => False) wg w4) := t3; clear t3)))
                all_goals (try go_wp2_with fail)
                all_goals go_meet
                all_goals (case rel => exact ⟨_, rfl, rfl, T0.out⟩)
              case rest =>
                obtain ⟨tz, rfl, htz, hcT⟩ := hcut
                obtain ⟨wh, hwh⟩ : ∃ wh, wh = wc := ⟨_, rfl⟩
                subst hwh
                clear S0 S1 HG1 HG2 T0 HK HKT
                have hcle : c ≤ 9007199254740991 := by
                  rcases HI.out.2.2 with ⟨hl, rfl, _⟩ | ⟨hl, rfl, _⟩
                  · have hl' := lessI_iff.1 (HLB.out.symm.trans hl)
                    rcases HH.out.1.bl.cb.hd_ok with ⟨e, e1, e2⟩ | ⟨x, l, e, hx, hxo⟩
                    · rcases HH.out.1.bl.ca.hd_ok with ⟨e', e1', e2'⟩ | ⟨x, l, e', hx, hxo⟩
                      · exact absurd ⟨e', e⟩ HH.out.2
                      · have ho := Tn.ok_iff.1 hxo; rw [hx] at hl'; omega
                    · have ho := Tn.ok_iff.1 hxo; rw [hx]; omega
                  · have hl' : ¬ _ := fun e => by rw [HLB.out, lessI_iff.2 e] at hl; cases hl
                    rcases HH.out.1.bl.ca.hd_ok with ⟨e, e1, e2⟩ | ⟨x, l, e, hx, hxo⟩
                    · rcases HH.out.1.bl.cb.hd_ok with ⟨e', e1', e2'⟩ | ⟨x, l, e', hx, hxo⟩
                      · exact absurd ⟨e, e'⟩ HH.out.2
                      · have ho := Tn.ok_iff.1 hxo; rw [hx] at hl'; omega
                    · have ho := Tn.ok_iff.1 hxo; rw [hx]; omega
                have hq1 := HH.out.1.ra.lt
                have hq2 := HH.out.1.rb.lt
                have M0 : Hid (Mid w r1 r2 Bt (.slice ao out.length cap) out c k A B wh) := by
                  have hh := HH.out.1.on (HI.out.1.trans hcT.out)
                  have hb := HBt.out
                  exact ⟨hh.ra, hh.rb, hh.nw, (hcT.out.block _ (lt_of_heap HI.out.2.1) id).trans HI.out.2.1, hr12, by omega, by omega⟩
                have HtA : Hid (∀ B1 W, Mid w r1 r2 Bt (.slice ao out.length cap) out c k A B1 W → Calls Tryz.prog 86 #[rp r1, idV c k, u64 tz] W fun e w' => ∃ A' n, e = .returned (u64 n) ∧ Took A A' c k tz n ∧ Mid w r1 r2 Bt (.slice ao out.length cap) out c k A' B1 w') := fun B1 W h => h.takeA tz (by omega) hcle (by have := htz.out; have := HX.out.1; omega)
                have HtB : Hid (∀ A1 W, Mid w r1 r2 Bt (.slice ao out.length cap) out c k A1 B W → Calls Tryz.prog 86 #[rp r2, idV c k, u64 tz] W fun e w' => ∃ B' n, e = .returned (u64 n) ∧ Took B B' c k tz n ∧ Mid w r1 r2 Bt (.slice ao out.length cap) out c k A1 B' w') := fun A1 W h => h.takeB tz (by omega) hcle (by have := htz.out; have := HX.out.2; omega)
                have S0 := M0.out.cells
                have S1 := (M0.out.on (Touch.refl _ _).drew).cells
                clear hq1 hq2
                go_upto_region 8 with fail
                go_cut [12] (fun t wx => ∃ A' B' n m, t = u64 (p n m) ∧ Hid (Took A A' c k tz n ∧ Took B B' c k tz m ∧ Mid w r1 r2 Bt (.slice ao out.length cap) out c k A' B' wx))
                case first =>
                  go_wp2_with fail
                  go_region_held3 (fun W => W.cell? ⟨Bt, 0, none⟩ = some (u64 c) ∧ W.cell? ⟨Bt, 1, none⟩ = some (u64 k)) (first | assumption)
                    (first | (go_at_call 86; first | ((with_reducible refine (HtA.out _ _ M0.out).mono ?_); rintro e w3 ⟨A', n, rfl, q, M1⟩; have S3 := M1.cells; clear M0; have M0 : Hid (Mid w r1 r2 Bt (.slice ao out.length cap) out c k A' _ w3) := M1; have TA : Hid (Took A A' c k tz n) := q; clear q M1) | ((with_reducible refine (HtA.out _ _ (M0.out.on (Touch.refl _ _).drew)).mono ?_); rintro e w3 ⟨A', n, rfl, q, M1⟩; have S3 := M1.cells; clear M0; have M0 : Hid (Mid w r1 r2 Bt (.slice ao out.length cap) out c k A' _ w3) := M1; have TA : Hid (Took A A' c k tz n) := q; clear q M1) | ((with_reducible refine (HtB.out _ _ M0.out).mono ?_); rintro e w4 ⟨B', m, rfl, q, M1⟩; have S4 := M1.cells; clear M0; have M0 : Hid (Mid w r1 r2 Bt (.slice ao out.length cap) out c k _ B' w4) := M1; have TB : Hid (Took B B' c k tz m) := q; clear q M1) | ((with_reducible refine (HtB.out _ _ (M0.out.on (Touch.refl _ _).drew)).mono ?_); rintro e w4 ⟨B', m, rfl, q, M1⟩; have S4 := M1.cells; clear M0; have M0 : Hid (Mid w r1 r2 Bt (.slice ao out.length cap) out c k _ B' w4) := M1; have TB : Hid (Took B B' c k tz m) := q; clear q M1)) | ((with_reducible refine (hG _ _ _).mono ?_); rintro e w5 ⟨rfl, rfl⟩))
                  all_goals (try go_wp2_with fail)
                  all_goals go_meet
                  all_goals (case rel => exact ⟨_, _, _, _, rfl, ⟨TA.out, TB.out, M0.out⟩⟩)
                case rest =>
                  obtain ⟨A', B', n, m, rfl, HQ⟩ := hcut
                  obtain ⟨wi, hwi⟩ : ∃ wi, wi = wc := ⟨_, rfl⟩
                  subst hwi
                  clear S0 S1 M0 HtA HtB
                  have S0 := HQ.out.2.2.cells
                  have k0 := S0.1
                  have k1 := S0.2
                  have hmu2 : out.length ≤ 1073741824 := by omega
                  have LY := lay_any w wi (.slice ao out.length cap) out ⟨c, k, tz, p n m⟩ HQ.out.2.2.nw hmu2
                  have HST : Hid (Blend p A0 B0 (lay out ⟨c, k, tz, p n m⟩) A' B' ∧ mu A' B' < mu A B ∧ A'.length ≤ A.length ∧ B'.length ≤ B.length ∧ (lay out ⟨c, k, tz, p n m⟩).length ≤ out.length + 1) := by
                    have h := step_both HP.out HH.out.1.bl HH.out.2 (c := c) (k := k) (by rw [← HLB.out]; exact HI.out.2.2) (by rw [htz.out, HX.out.1, HX.out.2]) HQ.out.1 HQ.out.2.1
                    exact ⟨h.1, h.2, HQ.out.1.len, HQ.out.2.1.len, lay_len _ _⟩
                  have HRR : Hid (∀ v' w', NewT w w' v' (lay out ⟨c, k, tz, p n m⟩) → Touch (fun x => (Value.slice ao out.length cap).ownBlock = some x) wi w' → Held p w A0 B0 r1 r2 w' v' (lay out ⟨c, k, tz, p n m⟩) A' B') := fun v' w' hN t => by
                    obtain ⟨rv1, hx1, _⟩ := HQ.out.2.2.ra.ex
                    obtain ⟨rv2, hx2, _⟩ := HQ.out.2.2.rb.ex
                    exact ⟨HST.out.1, HQ.out.2.2.ra.on t (HQ.out.2.2.nw.apart hx1), HQ.out.2.2.rb.on t (HQ.out.2.2.nw.apart hx2), hN⟩
                  generalize p n m = pn at *
                  clear S0 HQ htz hcT HX HI HH HLB HBt
                  go_wp2_with fail
                  refine LY.mono ?_
                  rintro e w9 ⟨v9, rfl, hN9, t9⟩
                  have HZ : Hid (Held p w A0 B0 r1 r2 w9 v9 (lay out ⟨c, k, tz, pn⟩) A' B') := HRR.out v9 w9 hN9 t9
                  obtain ⟨ao9, cap9, rfl, _⟩ := hN9.shape
                  clear hN9 t9 HRR LY
                  go_wp2_with fail
                  go_roundg (mu A' B')
                  case measure => exact HST.out.2.1
                  case rel =>
                    have q := HST.out.2
                    exact ⟨A', B', _, rfl, HZ, by omega, by omega, by omega, ⟨_, _, rfl⟩⟩
      · have HQ : Hid (NewT w wc (.slice ao out.length cap) out ∧ Form out (fun c k => p (val A0 c k) (val B0 c k)) ∧ out.length ≤ 2 * (A0.length + B0.length) + 1) := ⟨H.out.nw.on hcT.out, H.out.bl.form HP.out, by omega⟩
        clear H hcT hc22
        go_wp2_with fail
        refine bodyPost_ret (v := .slice ao out.length cap) (by simp [results, Tryz.results65, go_sem]) rfl ?_
        exact ⟨_, _, rfl, HQ.out⟩
end Go.Proofs.YtdblfabbmpdoiaaGreat
