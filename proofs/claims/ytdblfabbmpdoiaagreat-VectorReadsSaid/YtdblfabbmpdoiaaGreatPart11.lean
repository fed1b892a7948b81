/- The contract of vector.Read on bytes that Write wrote. -/
import Derived.Test.YtdblfabbmpdoiaaGreatVBn
import Derived.Test.YtdblfabbmpdoiaaGreatVecM
import Derived.Test.YtdblfabbmpdoiaaGreatRowC
import Derived.Deep.LoopGhost
import Derived.BigQuiet
import Derived.Deep.QuietTactic
namespace Go.Proofs.YtdblfabbmpdoiaaGreat
open Go.RowKit Go.Maps
set_option linter.unusedVariables false
set_option linter.unusedSimpArgs false
set_option maxRecDepth 100000

theorem vread_enters (cap : Array Value) (w : World) : (callFunc 34 cap).run Tryz.prog w = .ok (.enter 34 cap) w := by kernel_rfl
/-- What the closure leaves: the list lies in the box lb. -/
structure InBox (w wx : World) (p g lb : Nat) (more : List UInt8) (v : Value) (l : List Ck) : Prop where
  box : wx.cell? ⟨lb, 0, none⟩ = some v
  owns : wx.ownsRow 0 50 2 v l.length (cellsC l)
  touch : Touch (fun k => k = p ∨ k = lb) w wx
  fresh : ∀ k, v.ownBlock = some k → w.heap.size ≤ k
  rd : Rd wx p g more 0
set_option maxHeartbeats 800000 in
theorem vread1_good (p g rb lb : Nat) (T : TypeId) (v0 : Value) (out : List Ck) (more : List UInt8) (F : Int → Int) (w : World) (h : Rd w p g (encV out ++ more) 0) (hF : VForm out F) (hol : out.length ≤ 1000)
    (hr : w.cell? ⟨rb, 0, none⟩ = some (.pointer (some ⟨p, 0, none⟩))) (hl : w.heap[lb]? = some (.cells #[v0] T (0, 0))) (hne : lb ≠ p) (hng : lb ≠ g) :
    Calls Tryz.prog 34 #[.pointer (some ⟨rb, 0, none⟩), .pointer (some ⟨lb, 0, none⟩)] w fun e w' => e = .returned (.tuple #[]) ∧ ∃ v, InBox w w' p g lb more v out := by
  have K := readClocks_good p g out more F w h hF hol
  have hplt := h.lt
  have HL : Hid (w.heap[lb]? = some (.cells #[v0] T (0, 0))) := hl
  have hllt := lt_of_heap hl
  clear h hl hF
  go_enter Tryz.func34, Tryz.ntmps34
  go_wp2_with fail
  refine K.mono ?_
  rintro e w1 ⟨v1, rfl, C1, R1⟩
  have hb := (C1.touch.block lb hllt hne).trans HL.out
  have c0 : w1.cell? ⟨lb, 0, none⟩ = some v0 := by rw [cell_of_block hb]; rfl
  have c0z : w1.frozen? ⟨lb, 0, none⟩ = false := free_of_block hb
  have hfr : ∀ k, v1.ownBlock = some k → w.heap.size ≤ k := C1.fresh
  have tt : Touch (· = lb) w1 (w1.setCell ⟨lb, 0, none⟩ v1) := (Touch.refl _ _).setCell _ _ fun _ => rfl
  have HQ : Hid (InBox w (w1.setCell ⟨lb, 0, none⟩ v1) p g lb more v1 out) :=
    ⟨World.cell?_setCell_same _ _ _ c0, ownC_touch C1.owns tt (fun k hk e => by have := hfr k hk; omega), (C1.touch.mono fun k _ e => .inl e).then tt (fun k _ e => .inr e), hfr, R1.keep tt (fun e => hne e.symm) (fun _ e => hng e.symm)⟩
  obtain ⟨ao1, cap1, rfl⟩ := C1.shape
  clear C1 R1 hb hfr tt K HL
  go_wp2_with fail
  go_end0
  exact ⟨rfl, _, HQ.out⟩
theorem vtry_good (p g rb lb : Nat) (T : TypeId) (v0 : Value) (out : List Ck) (more : List UInt8) (F : Int → Int) (w : World) (h : Rd w p g (encV out ++ more) 0) (hF : VForm out F) (hol : out.length ≤ 1000)
    (hr : w.cell? ⟨rb, 0, none⟩ = some (.pointer (some ⟨p, 0, none⟩))) (hl : w.heap[lb]? = some (.cells #[v0] T (0, 0))) (hne : lb ≠ p) (hng : lb ≠ g) :
    Calls Tryz.prog 33 #[.func (.func 34) #[] #[.pointer (some ⟨rb, 0, none⟩), .pointer (some ⟨lb, 0, none⟩)]] w fun e w' => e = .returned (.int .i64 0) ∧ ∃ v, InBox w w' p g lb more v out := by
  have hplt := h.lt
  have hglt := h.ltBytes
  have hllt := lt_of_heap hl
  have hrlt := World.block_lt_of_cell? _ _ hr
  have ta : Touch (fun _ => False) w (w.alloc (.cells #[.int .i64 0] 39)) := (Touch.refl _ w).alloc _
  refine (try_ok 34 _ w (fun w2 => ∃ v, InBox (w.alloc (.cells #[.int .i64 0] 39)) w2 p g lb more v out) (vread_enters _) ((vread1_good p g rb lb T v0 out more F _ (h.alloc _) hF hol ((ta.cell hrlt id 0).trans hr) ((ta.block lb hllt id).trans hl) hne hng).mono ?_)).mono ?_
  · rintro e w2 ⟨rfl, v, I⟩
    have hb : w2.heap[w.heap.size]? = some (.cells #[.int .i64 0] 39) := by
      rw [I.touch.block w.heap.size (by simp) (by omega)]
      exact heap_alloc_new _ _
    exact ⟨rfl, ⟨v, I⟩, by rw [cell_of_block hb]; rfl, free_of_block hb⟩
  · rintro e w' ⟨rfl, w2, ⟨v, I⟩, rfl⟩
    have tt : Touch (· = w.heap.size) w2 (w2.setCell ⟨w.heap.size, 0, none⟩ (.int .i64 0)) := (Touch.refl _ _).setCell _ _ fun _ => rfl
    have hz : w.heap.size < w2.heap.size := by have := I.touch.size; simp at this; omega
    refine ⟨rfl, v, (tt.cell (by omega) (by omega) 0).trans I.box, ownC_touch I.owns tt (fun k hk e => by have := I.fresh k hk; simp at this; omega), ?_, fun k hk => by have := I.fresh k hk; simp at this; omega, I.rd.keep tt (by omega) (fun _ => by omega)⟩
    exact ((ta.mono (T := fun k => k = p ∨ k = lb) fun _ _ e => e.elim).trans (I.touch.mono fun _ _ h => h)).then tt (fun k hk e => by omega)
set_option maxHeartbeats 1600000 in
theorem vread_good (p g : Nat) (out : List Ck) (more : List UInt8) (F : Int → Int) (w : World) (h : Rd w p g (encV out ++ more) 0) (hF : VForm out F) (hol : out.length ≤ 1000) :
    Calls Tryz.prog 15 #[.pointer (some ⟨p, 0, none⟩)] w fun e w' => ∃ v', e = .returned v' ∧ ReadC w w' p v' out ∧ Rd w' p g more 0 := by
  have hplt := h.lt
  have hglt := h.ltBytes
  have HR : Hid (Rd w p g (encV out ++ more) 0 ∧ VForm out F) := ⟨h, hF⟩
  have hmf : ∀ (fn : Fn) (first cap : Array Value) (w : World), (Instr.makeFunc fn first cap).run Tryz.prog w = .ok (.func fn first cap) w := fun _ _ _ _ => rfl
  obtain ⟨ao, c, hp, hl, hc, hL, _⟩ := h
  have c0 : w.cell? ⟨p, 0, none⟩ = some (.slice ao (encV out ++ more).length c) := by rw [cell_of_block hp]; rfl
  have c1 : w.cell? ⟨p, 1, none⟩ = some (.int .i64 0) := by rw [cell_of_block hp]; rfl
  clear hp hL hF
  generalize (encV out ++ more).length = N at *
  go_enter Tryz.func15, Tryz.ntmps15
  go_wp2_with fail
  obtain ⟨W0, hW0⟩ : ∃ W0, W0 = w.alloc (.cells #[.pointer (some ⟨p, 0, none⟩)] 34) := ⟨_, rfl⟩
  rw [← hW0]
  obtain ⟨W1, hW1⟩ : ∃ W1, W1 = W0.alloc (.cells #[.slice ao N c, .int .i64 0] 67) := ⟨_, rfl⟩
  rw [← hW1]
  obtain ⟨W2, hW2⟩ : ∃ W2, W2 = W1.alloc (.cells #[.slice none 0 0] 22) := ⟨_, rfl⟩
  rw [← hW2]
  have z0 : W0.heap.size = w.heap.size + 1 := by rw [hW0]; simp
  have z1 : W1.heap.size = w.heap.size + 1 + 1 := by rw [hW1]; simp [z0]
  have t0 : Touch (fun _ => False) w W0 := by rw [hW0]; exact (Touch.refl _ _).alloc _
  have t1 : Touch (fun _ => False) W0 W1 := by rw [hW1]; exact (Touch.refl _ _).alloc _
  have t2 : Touch (fun _ => False) W1 W2 := by rw [hW2]; exact (Touch.refl _ _).alloc _
  have b0 : W0.cell? ⟨w.heap.size, 0, none⟩ = some (.pointer (some ⟨p, 0, none⟩)) := by rw [hW0, cell_of_block (heap_alloc_new _ _)]; rfl
  have b0' := (t2.cell (b := w.heap.size) (by omega) id 0).trans ((t1.cell (b := w.heap.size) (by omega) id 0).trans b0)
  have b2 : W2.heap[w.heap.size + 1 + 1]? = some (.cells #[.slice none 0 0] 22 (0, 0)) := by rw [hW2, ← z1]; exact heap_alloc_new _ _
  have tA := (t0.trans t1).trans t2
  have HT := vtry_good p g w.heap.size (w.heap.size + 1 + 1) _ _ out more F W2 (HR.out.1.keep tA id (fun _ => id)) HR.out.2 hol b0' b2 (by omega) (by omega)
  refine HT.mono ?_
  rintro e w5 ⟨rfl, v5, I5⟩
  have cB := I5.box
  have HQ : Hid (ReadC w w5 p v5 out ∧ Rd w5 p g more 0) :=
    ⟨⟨I5.owns, (tA.mono (T := (· = p)) fun _ _ e => e.elim).then I5.touch (fun k hk e => by rcases e with e | e; exact e; omega), fun k hk => Nat.le_trans tA.size (I5.fresh k hk)⟩, I5.rd⟩
  obtain ⟨ao5, cap5, rfl⟩ := HQ.out.1.shape
  clear I5 HT tA b2 b0' b0 t2 t1 t0 z1 z0 hW2 hW1 hW0 c0 c1 HR
  go_wp2_with fail
  refine bodyPost_ret (v := .slice ao5 out.length cap5) (by simp [results, Tryz.results15, go_sem]) rfl ?_
  exact ⟨_, rfl, HQ.out⟩
end Go.Proofs.YtdblfabbmpdoiaaGreat

/- The contract of the document's At. -/
namespace Go.Proofs.YtdblfabbmpdoiaaGreat
open Go.RowKit Go.Maps
set_option linter.unusedVariables false
set_option linter.unusedSimpArgs false
set_option maxRecDepth 100000

theorem atC_go {l : List Ck} {j : Nat} (hj : j < l.length) (c : Int) : atC (l.take (j + 1)) c = if l[j].c = c ∧ 1 ≤ c ∧ c ≤ 9007199254740991 then max (atC (l.take j) c) (min l[j].k 9007199254740991) else atC (l.take j) c := by
  rw [List.take_succ_eq_append_getElem hj, atC_append]
  have := atC_pos (l.take j) c
  have e : atC [l[j]] c = if l[j].c = c ∧ 1 ≤ c ∧ c ≤ 9007199254740991 then max (min l[j].k 9007199254740991) 0 else 0 := rfl
  rw [e]
  split <;> omega
set_option maxHeartbeats 1600000 in
theorem rat_any (l : List Ck) (v : Value) (c : Int) (w : World) (hs : SlC w v l) (hll : l.length ≤ 1073741824) :
    Calls Tryz.prog 36 #[v, u64 c] w fun e w' => e = .returned (u64 (atC l c)) ∧ w' = w := by
  have HSl : Hid (SlC w v l) := hs
  obtain ⟨ao1, cap1, rfl, _⟩ := hs
  go_enter Tryz.func36, Tryz.ntmps36
  go_wp2_with fail
  go_loopg [5, 6] l.length (fun g s5 s6 wx => ∃ (j : Nat) (n : Int), j + g = l.length ∧ s6 = .int .i64 (j : Int) ∧ s5 = u64 n ∧ Hid (n = atC (l.take j) c) ∧ wx = w)
  case atStart => exact ⟨0, 0, by omega, rfl, rfl, rfl, rfl⟩
  case round =>
    obtain ⟨j, n, hjg, rfl, rfl, H, rfl⟩ := hrel
    by_cases hlt : j < l.length
    · have hne : l ≠ [] := by rintro rfl; simp at hlt
      obtain ⟨b, o, cp, e, _, _, hb, hrow⟩ := HSl.out.row hne
      obtain ⟨rfl, _, rfl⟩ : ao1 = some ⟨b, o, none⟩ ∧ True ∧ cap1 = cp := by simpa using e
      obtain ⟨c0, c1⟩ := hrow j hlt
      have HE : Hid (atC (l.take (j + 1)) c = if l[j].c = c ∧ 1 ≤ c ∧ c ≤ 9007199254740991 then max n (min l[j].k 9007199254740991) else n) := by rw [Hid, atC_go hlt, ← H.out]
      generalize l[j] = x at *
      obtain ⟨xc, xk⟩ := x
      simp only at HE c0 c1
      clear hrow e hne H
      by_cases hc : xc = c
      · subst hc
        by_cases h1 : 1 ≤ xc
        · by_cases h2 : xc ≤ 9007199254740991
          · have HN : Hid (atC (l.take (j + 1)) xc = max n (min xk 9007199254740991)) := by rw [Hid, HE.out, if_pos ⟨rfl, h1, h2⟩]
            clear HE
            go_wp2_with fail
            go_roundg (l.length - (j + 1))
            case measure => omega
            case rel => exact ⟨j + 1, _, by omega, by go_num, rfl, HN.out.symm, rfl⟩
          · have HN : Hid (atC (l.take (j + 1)) xc = n) := by rw [Hid, HE.out, if_neg (by omega)]
            clear HE
            go_wp2_with fail
            go_roundg (l.length - (j + 1))
            case measure => omega
            case rel => exact ⟨j + 1, _, by omega, by go_num, rfl, HN.out.symm, rfl⟩
        · have HN : Hid (atC (l.take (j + 1)) xc = n) := by rw [Hid, HE.out, if_neg (by omega)]
          clear HE
          go_wp2_with fail
          go_roundg (l.length - (j + 1))
          case measure => omega
          case rel => exact ⟨j + 1, _, by omega, by go_num, rfl, HN.out.symm, rfl⟩
      · have HN : Hid (atC (l.take (j + 1)) c = n) := by rw [Hid, HE.out, if_neg (by omega)]
        have hc1 : (xc == c) = false := by simpa using hc
        clear HE
        go_wp2_with fail
        go_roundg (l.length - (j + 1))
        case measure => omega
        case rel => exact ⟨j + 1, _, by omega, by go_num, rfl, HN.out.symm, rfl⟩
    · have hjl : j = l.length := by omega
      subst hjl
      have HQ : Hid (n = atC l c) := by have := H.out; rwa [List.take_length] at this
      clear H
      go_wp2_with fail
      refine bodyPost_ret (v := u64 n) (by simp [results, Tryz.results36, go_sem]) rfl ?_
      exact ⟨by rw [HQ.out], rfl⟩
end Go.Proofs.YtdblfabbmpdoiaaGreat
