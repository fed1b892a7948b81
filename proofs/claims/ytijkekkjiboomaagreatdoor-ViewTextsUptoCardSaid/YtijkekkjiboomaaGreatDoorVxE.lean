/- Views: runParts. -/
import Derived.Test.YtijkekkjiboomaaGreatDoorPart23
import Derived.Deep.RegionHeld3
import Derived.Deep.DeepCutAuto
namespace Go.Proofs.YtijkekkjiboomaaGreatDoor
open Go.RowKit Go.Maps
set_option linter.unusedVariables false
set_option linter.unusedSimpArgs false
set_option maxRecDepth 100000

/-- What can be told. -/
structure TakM (m : Mk) : Prop where
  v : V.taken m.v
  s : m.vs.size ≤ 1048576
  k : m.ky.size ≤ 1048576
structure TakR (x : Rn) : Prop where
  v : x.em = true → V.taken x.v
  s : x.v.s.size ≤ 1048576
  t : x.tx.size ≤ 1048576
  m : ∀ m ∈ x.ml, TakM m
theorem cellsZ_map : ∀ l : List ByteArray, cellsZ l = l.map Value.string
  | [] => rfl
  | f :: l => by rw [cellsZ_cons, cellsZ_map l, List.map_cons]
theorem NewZ.lit {W w1 : World} (t : Touch (fun _ => False) W w1) (l : List ByteArray) (hl : l.length ≤ 1048576) : NewZ W (w1.alloc (.cells (l.map Value.string).toArray 9)) (.slice (some ⟨w1.heap.size, 0, none⟩) l.length l.length) l := by
  refine ⟨⟨by rw [cellsZ_len], .inr ⟨w1.heap.size, l.length, (l.map Value.string).toArray, rfl, Nat.zero_le _, heap_alloc_new _ _, Nat.le_refl _, by unfold maxLen; omega, by simp, ?_⟩⟩, t.alloc _, fun k hk => ?_⟩
  · rw [cellsZ_map, Nat.mul_one]
    exact List.take_of_length_le (by simp)
  · simp only [Value.ownBlock, Option.some.injEq] at hk
    rw [← hk]; exact t.size
theorem LiesZ.lit (W : World) (l : List ByteArray) : LiesZ (W.alloc (.cells (l.map Value.string).toArray 9)) (some ⟨W.heap.size, 0, none⟩) l := by
  refine .inr ⟨_, _, rfl, ⟨_, heap_alloc_new W _⟩, fun j u hu => ?_⟩
  rw [Nat.zero_add, cell_of_block (heap_alloc_new W _)]
  rw [cellsZ_map] at hu
  simpa using hu
theorem notZ {W w : World} {v : Value} {n : Nat} {xs : List Value} {X : Nat} {cs : Array Value} {T : TypeId} (h : OwnZ w W v n xs) (hX : W.heap[X]? = some (.cells cs T)) (hT : T ≠ 9) : v.ownBlock ≠ some X := by
  rcases h.owns.2 with ⟨e, _⟩ | ⟨g, cap, cur, e, hb, hg, _⟩
  · rw [e]; simp [Value.ownBlock]
  · intro e2
    rw [e] at e2
    simp only [Value.ownBlock, Option.some.injEq] at e2
    subst e2
    rw [hX] at hg
    simp only [Option.some.injEq, Obj.cells.injEq] at hg
    exact hT hg.2.1
/-- An append of a few, out of a new block. -/
theorem NewZ.few {W w1 : World} {v : Value} {l : List ByteArray} (h : NewZ W w1 v l) (b : List ByteArray) (hlen : l.length + b.length ≤ 1073741825) :
    ∃ a5 n5 c5 w5, (Builtin.append_ #[62, 62] 62 #[v, .slice (some ⟨w1.heap.size, 0, none⟩) b.length b.length]).run Tryz.prog (w1.alloc (.cells (b.map Value.string).toArray 9)) = .ok (.slice a5 n5 c5) w5 ∧ NewZ W w5 (.slice a5 n5 c5) (l ++ b) ∧ ∀ k, k < w1.heap.size → v.ownBlock ≠ some k → w5.heap[k]? = w1.heap[k]? := by
  have t := (Touch.refl (fun _ => False) w1).alloc (.cells (b.map Value.string).toArray 9)
  obtain ⟨v', w', hr, hN, hg⟩ := NewZ.app (h.on t) (some ⟨w1.heap.size, 0, none⟩) b.length b.length b rfl (fun h => by cases h) (LiesZ.lit w1 b) hlen
  obtain ⟨ao, cap, e, -⟩ := hN.shape
  subst e
  refine ⟨_, _, _, w', hr, hN, fun k hk hne => ?_⟩
  rw [hg.block k (by simp; omega) (fun e => hne e.symm)]
  exact Below.heap_alloc _ _ _ hk
theorem step_append_runZ {w w' : World} {ops : Array Oper} {o : Oper} {a : Act} {K : Act → World → Prop} {Q : Exit → Act → World → Prop} {E : Prop} (hw : Region.wanted o (yielded ops a.tmps) = true) (s x : Operand)
    (ho : o.op = .call { callee := .builtin .append, args := #[s, x], argTypes := #[62, 62] }) (v y v' : Value) (hs : a.eval s = v) (hx : a.eval x = y)
    (hrun : (Builtin.append_ #[62, 62] o.type #[v, y]).run Tryz.prog w = .ok v' w') (h : K (a.put o.dst v') w') :
    if Region.wanted o (yielded ops a.tmps) = true then Oper.wp Tryz.prog o a w K Q else E := by
  rw [if_pos hw]
  unfold Oper.wp
  simp [execOp, ho, resolve, invoke, builtin, hs, hx, hrun, Result.andThen]
  exact h
theorem markP_len (l : List Mk) : (l.flatMap markP).length = 4 * l.length := by
  induction l with
  | nil => rfl
  | cons m l ih => rw [List.flatMap_cons, List.length_append, ih]; simp [markP]; omega
theorem headP_len (x : Rn) : (headP x).length = 2 := by unfold headP; split <;> rfl
set_option maxHeartbeats 16000000 in
theorem runParts_any {w : World} {r : Rw} {x : Rn} (hm : MtR w r x) (hx : TakR x) (hl : x.ml.length ≤ 1048576) (hT : TabsI w) :
    Calls Tryz.prog 35 #[r.val] w fun e w' => ∃ v', e = .returned v' ∧ NewZ w w' v' (partsT x) := by
  obtain ⟨ao, cap, esl, a1, a2, a3⟩ := hm.ml.shape
  have HA : Hid (x.ml ≠ [] → _) := (by have := hm.ml; rw [esl] at this; exact this.at)
  obtain ⟨E, hE⟩ : ∃ E, Hid (E = w.alloc (rwO r)) := ⟨_, Eq.refl _⟩
  obtain ⟨m, hmm⟩ : ∃ m, Hid (m = w.heap.size) := ⟨_, Eq.refl _⟩
  have HTE : Hid (Touch (fun _ => False) w E) := by rw [hE.out]; exact (Touch.refl _ _).alloc _
  have HQ : Hid (E.heap[m]? = some (rwO r)) := by rw [hE.out, hmm.out]; exact heap_alloc_new _ _
  have HTT : Hid (TabsI w) := hT
  have HCt : Hid (∀ W, Calls Tryz.prog 58 #[.string r.tx] W fun e w' => e = .returned (.string ⟨(qL r.tx).toArray⟩) ∧ Touch (fun _ => False) W w') := fun W => textOf_any r.tx (by have := hx.t; rw [hm.tx]; omega) W
  have HCv : Hid (r.em = true → ∀ W, TabsI W → Calls Tryz.prog 59 #[.agg #[.int .i64 r.vk, .int .i64 r.vn, .float .f64 r.vf, .string r.vs]] W fun e w' => e = .returned (.string ⟨(textL x.v).toArray⟩) ∧ Touch (fun _ => False) W w') := fun he W ht => by
    have h1 := v_text x.v (hx.v (by rw [← hm.em]; exact he)) (by have := hx.s; omega) W ht
    have e1 : x.v = ⟨r.vk, r.vn, r.vf, r.vs⟩ := hm.v.symm
    rw [e1] at h1 ⊢
    exact h1
  have HCk : Hid (∀ i (h : i < x.ml.length) W, Calls Tryz.prog 58 #[.string x.ml[i].ky] W fun e w' => e = .returned (.string ⟨(qL x.ml[i].ky).toArray⟩) ∧ Touch (fun _ => False) W w') := fun i h W => textOf_any _ (by have := (hx.m _ (List.getElem_mem h)).k; omega) W
  have HCm : Hid (∀ i (h : i < x.ml.length) W, TabsI W → Calls Tryz.prog 59 #[.agg #[.int .i64 x.ml[i].vk, .int .i64 x.ml[i].vn, .float .f64 x.ml[i].vf, .string x.ml[i].vs]] W fun e w' => e = .returned (.string ⟨(textL x.ml[i].v).toArray⟩) ∧ Touch (fun _ => False) W w') := fun i h W ht => v_text x.ml[i].v (hx.m _ (List.getElem_mem h)).v (by have := (hx.m _ (List.getElem_mem h)).s; show x.ml[i].vs.size ≤ _; omega) W ht
  have HH : Hid (headP x = if r.em = true then [⟨#[101, 32]⟩, ⟨(textL x.v).toArray⟩] else [⟨#[116, 32]⟩, ⟨(qL r.tx).toArray⟩]) := by rw [Hid, hm.em, hm.tx]; rfl
  have HP : Hid (partsT x = headP x ++ x.ml.flatMap markP ∧ (headP x).length = 2) := ⟨rfl, headP_len x⟩
  have esl2 : (Value.slice r.ms.a r.ms.n r.ms.c) = .slice ao x.ml.length cap := esl
  clear hm hx hT esl
  generalize partsT x = PT at *
  generalize headP x = hp at *
  generalize textL x.v = tv at *
  generalize x.ml = l at *
  obtain ⟨tx, em, vk, vn, vf, vs, ⟨ma, mn, mc⟩⟩ := r
  simp only [Value.slice.injEq] at HQ HCt HCv HH esl2 hE ⊢
  obtain ⟨rfl, rfl, rfl⟩ := esl2
  generalize ByteArray.mk (qL tx).toArray = qt at *
  generalize ByteArray.mk tv.toArray = qv at *
  obtain ⟨c0, c1, c2, c3, c4, c5, c6⟩ := rwO_cells HQ.out
  have hst := run_store_f64 Tryz.prog
  go_enter Tryz.func35, Tryz.ntmps35
  go_upto_region 1 with fail
  rw [← hE.out, ← hmm.out]
  clear hE hmm
  go_wp2_with fail
  refine (HCt.out _).mono ?_
  rintro e W1 ⟨rfl, t1⟩
  have k1 := hkY t1 HQ.out
  clear c0 c1 c2 c3 c4 c5 c6
  obtain ⟨V1, hV1⟩ : ∃ V1, Hid (V1 = W1.alloc (.cells #[.string ⟨#[116, 32]⟩, .string qt] 9)) := ⟨_, Eq.refl _⟩
  have HV1 : Hid (NewZ w V1 (.slice (some ⟨W1.heap.size, 0, none⟩) 2 2) [⟨#[116, 32]⟩, qt] ∧ V1.heap[m]? = some (rwO ⟨tx, em, vk, vn, vf, vs, ⟨ma, l.length, mc⟩⟩)) := by
    rw [hV1.out]
    exact ⟨NewZ.lit (HTE.out.trans t1) [⟨#[116, 32]⟩, qt] (by show 2 ≤ 1048576; omega), hkY ((Touch.refl _ _).alloc _) k1⟩
  clear k1 t1 HQ HTE HCt
  go_upto_region 2 with fail
  rw [← hV1.out]
  clear hV1
  obtain ⟨c0, c1, c2, c3, c4, c5, c6⟩ := rwO_cells HV1.out.2
  generalize W1.heap.size = g1 at *
  clear W1
  go_upto_if 11 with fail
  go_cut [3] (fun s3 wx => ∃ ao n c, s3 = .slice ao n c ∧ Hid (NewZ w wx (.slice ao n c) hp ∧ wx.heap[m]? = some (rwO ⟨tx, em, vk, vn, vf, vs, ⟨ma, l.length, mc⟩⟩)))
  case first =>
    clear HA HCk HCm a1 a2 a3 hl
    cases em with
    | false =>
      have hQ : Hid (NewZ w V1 (.slice (some ⟨g1, 0, none⟩) 2 2) hp ∧ V1.heap[m]? = some (rwO ⟨tx, false, vk, vn, vf, vs, ⟨ma, l.length, mc⟩⟩)) := by
        have e : hp = [⟨#[116, 32]⟩, qt] := HH.out
        rw [e]; exact HV1.out
      clear HH HV1 HCv
      go_wp2_with fail
      go_meet
      case rel => exact ⟨_, _, _, rfl, hQ.out⟩
    | true =>
      have hC := HCv.out rfl V1 (HTT.out.keep HV1.out.1.touch)
      have HC : Hid (Calls Tryz.prog 59 #[.agg #[.int .i64 vk, .int .i64 vn, .float .f64 vf, .string vs]] V1 fun e w' => e = .returned (.string qv) ∧ Touch (fun _ => False) V1 w') := hC
      clear hC HCv
      go_wp2_with fail
      refine HC.out.mono ?_
      rintro e W2 ⟨rfl, t2⟩
      have hQ : Hid (NewZ w (W2.alloc (.cells #[.string ⟨#[101, 32]⟩, .string qv] 9)) (.slice (some ⟨W2.heap.size, 0, none⟩) 2 2) hp ∧ (W2.alloc (.cells #[.string ⟨#[101, 32]⟩, .string qv] 9)).heap[m]? = some (rwO ⟨tx, true, vk, vn, vf, vs, ⟨ma, l.length, mc⟩⟩)) := by
        have e : hp = [⟨#[101, 32]⟩, qv] := HH.out
        rw [e]
        exact ⟨NewZ.lit (HV1.out.1.touch.trans t2) [⟨#[101, 32]⟩, qv] (by show 2 ≤ 1048576; omega), hkY ((Touch.refl _ _).alloc _) (hkY t2 HV1.out.2)⟩
      clear HC c0 c1 c2 c3 c4 c5 c6 t2 HH HV1
      go_wp2_with fail
      go_meet
      case rel => exact ⟨_, _, _, rfl, hQ.out⟩
  case rest =>
    obtain ⟨V, hV⟩ : ∃ V, V = wc := ⟨_, rfl⟩
    subst hV
    obtain ⟨ho, hn, hc, rfl, H⟩ := hcut
    clear c0 c1 c2 c3 c4 c5 c6 HCv HV1
    obtain ⟨-, -, -, -, -, -, c6⟩ := rwO_cells H.out.2
    have H0 : Hid (NewZ w V (.slice ho hn hc) (hp ++ (l.take 0).flatMap markP)) := by
      have := H.out.1
      rw [List.take_zero, List.flatMap_nil, List.append_nil]; exact this
    clear H
    go_wp2_with fail
    clear c6
    go_loopg [3, 19] l.length (fun gk s3 s19 wr => ∃ (i : Nat) (ao : Option Addr) (n c : Nat), i + gk = l.length ∧ s3 = .slice ao n c ∧ s19 = .int .i64 (i : Int) ∧ Hid (NewZ w wr (.slice ao n c) (hp ++ (l.take i).flatMap markP)))
    case atStart => exact ⟨0, _, _, _, by omega, rfl, rfl, H0.out⟩
    case round =>
      obtain ⟨i, so, sn, sc, hig, rfl, rfl, HI⟩ := hrel
      by_cases hil : i < l.length
      · obtain ⟨b, o, rfl, hca⟩ := HA.out (by intro e; subst e; simp at hil)
        obtain ⟨x0, x1, x2, x3, x4⟩ := hca wr HI.out.touch i hil
        have hi1 : (0 : Int) ≤ (i : Int) := by omega
        have hi2 : (i : Int) < (l.length : Int) := by omega
        have hbx := heap_alloc_new wr (myO l[i])
        have HCi : Hid (∀ W, Calls Tryz.prog 58 #[.string l[i].ky] W fun e w' => e = .returned (.string ⟨(qL l[i].ky).toArray⟩) ∧ Touch (fun _ => False) W w') := HCk.out i hil
        have HCj : Hid (∀ W, Touch (fun _ => False) (wr.alloc (myO l[i])) W → Calls Tryz.prog 59 #[.agg #[.int .i64 l[i].vk, .int .i64 l[i].vn, .float .f64 l[i].vf, .string l[i].vs]] W fun e w' => e = .returned (.string ⟨(textL l[i].v).toArray⟩) ∧ Touch (fun _ => False) W w') := fun W t => HCm.out i hil W (HTT.out.keep ((HI.out.touch.alloc _).trans t))
        have HK : Hid (∀ w1, Touch (fun _ => False) (wr.alloc (myO l[i])) w1 → (w1.cell? ⟨wr.heap.size, 0, none⟩ = some (.string l[i].ky) ∧ w1.cell? ⟨wr.heap.size, 1, none⟩ = some (.int .i64 l[i].vk) ∧ w1.cell? ⟨wr.heap.size, 2, none⟩ = some (.int .i64 l[i].vn) ∧ w1.cell? ⟨wr.heap.size, 3, none⟩ = some (.float .f64 l[i].vf) ∧ w1.cell? ⟨wr.heap.size, 4, none⟩ = some (.string l[i].vs)) ∧
            ∃ a5 n5 c5 w5, (Builtin.append_ #[62, 62] 62 #[.slice so sn sc, .slice (some ⟨w1.heap.size, 0, none⟩) 4 4]).run Tryz.prog (w1.alloc (.cells #[.string ⟨#[32]⟩, .string ⟨(qL l[i].ky).toArray⟩, .string ⟨#[61]⟩, .string ⟨(textL l[i].v).toArray⟩] 9)) = .ok (.slice a5 n5 c5) w5 ∧
            ((w1.alloc (.cells #[.string ⟨#[32]⟩, .string ⟨(qL l[i].ky).toArray⟩, .string ⟨#[61]⟩, .string ⟨(textL l[i].v).toArray⟩] 9)).cell? ⟨wr.heap.size, 0, none⟩ = some (.string l[i].ky) ∧ (w1.alloc (.cells #[.string ⟨#[32]⟩, .string ⟨(qL l[i].ky).toArray⟩, .string ⟨#[61]⟩, .string ⟨(textL l[i].v).toArray⟩] 9)).cell? ⟨wr.heap.size, 1, none⟩ = some (.int .i64 l[i].vk) ∧ (w1.alloc (.cells #[.string ⟨#[32]⟩, .string ⟨(qL l[i].ky).toArray⟩, .string ⟨#[61]⟩, .string ⟨(textL l[i].v).toArray⟩] 9)).cell? ⟨wr.heap.size, 2, none⟩ = some (.int .i64 l[i].vn) ∧ (w1.alloc (.cells #[.string ⟨#[32]⟩, .string ⟨(qL l[i].ky).toArray⟩, .string ⟨#[61]⟩, .string ⟨(textL l[i].v).toArray⟩] 9)).cell? ⟨wr.heap.size, 3, none⟩ = some (.float .f64 l[i].vf) ∧ (w1.alloc (.cells #[.string ⟨#[32]⟩, .string ⟨(qL l[i].ky).toArray⟩, .string ⟨#[61]⟩, .string ⟨(textL l[i].v).toArray⟩] 9)).cell? ⟨wr.heap.size, 4, none⟩ = some (.string l[i].vs)) ∧
            (w5.cell? ⟨wr.heap.size, 0, none⟩ = some (.string l[i].ky) ∧ w5.cell? ⟨wr.heap.size, 1, none⟩ = some (.int .i64 l[i].vk) ∧ w5.cell? ⟨wr.heap.size, 2, none⟩ = some (.int .i64 l[i].vn) ∧ w5.cell? ⟨wr.heap.size, 3, none⟩ = some (.float .f64 l[i].vf) ∧ w5.cell? ⟨wr.heap.size, 4, none⟩ = some (.string l[i].vs)) ∧
            Hid (NewZ w w5 (.slice a5 n5 c5) (hp ++ (l.take (i + 1)).flatMap markP))) := fun w1 t => by
          have kb := hkY t hbx
          have hN := HI.out.on (((Touch.refl _ wr).alloc (myO l[i])).trans t)
          obtain ⟨a5, n5, c5, w5, hrun, hN5, hk⟩ := NewZ.few hN (markP l[i]) (by rw [List.length_append, markP_len, HP.out.2, List.length_take]; simp [markP]; omega)
          have hb5 : w5.heap[wr.heap.size]? = some (myO l[i]) := (hk _ (lt_of_heap kb) (notZ hN kb (by decide))).trans kb
          refine ⟨myO_cells kb, a5, n5, c5, w5, hrun, myO_cells (hkY ((Touch.refl _ _).alloc _) kb), myO_cells hb5, ?_⟩
          have el : (l.take (i + 1)).flatMap markP = (l.take i).flatMap markP ++ markP l[i] := by rw [List.take_succ_eq_append_getElem hil, List.flatMap_append, List.flatMap_cons, List.flatMap_nil, List.append_nil]
          show NewZ _ _ _ _
          rw [el, ← List.append_assoc]; exact hN5
        clear hca HA HCk HCm HI hbx a1 a2 a3 H0 HH HP
        generalize l[i] = a at *
        obtain ⟨ky, vk', vn', vf', vs'⟩ := a
        simp only at x0 x1 x2 x3 x4 HK HCi HCj
        generalize ByteArray.mk (qL ky).toArray = qk at *
        generalize ByteArray.mk (textL (Mk.v ⟨ky, vk', vn', vf', vs'⟩)).toArray = qm at *
        go_upto_region 7 with fail
        obtain ⟨U, hU⟩ : ∃ U, Hid (U = wr.alloc (.cells #[.string ky, .int .i64 vk', .int .i64 vn', .float .f64 vf', .string vs'] 45)) := ⟨_, Eq.refl _⟩
        rw [← hU.out] at HK HCj ⊢
        clear hU x0 x1 x2 x3 x4
        generalize wr.heap.size = bx at *
        have TD : Touch (fun _ => False) U U.drew := (Touch.refl _ U).drew
        have S0 := (HK.out _ TD).1
        go_region_held3 (fun W => W.cell? ⟨bx, 0, none⟩ = some (.string ky) ∧ W.cell? ⟨bx, 1, none⟩ = some (.int .i64 vk') ∧ W.cell? ⟨bx, 2, none⟩ = some (.int .i64 vn') ∧ W.cell? ⟨bx, 3, none⟩ = some (.float .f64 vf') ∧ W.cell? ⟨bx, 4, none⟩ = some (.string vs')) (first | assumption)
          (first
            | (refine step_append_runZ (by rfl) _ _ rfl _ _ _ rfl rfl hrun ?_)
            | (go_at_call 58; (with_reducible refine (HCi.out _).mono ?_); rintro e w1 ⟨rfl, t1⟩; have TT := Touch.trans (by assumption) t1; obtain ⟨S1, a5, n5, c5, w5, hrun, SA, S5, HQ9⟩ := HK.out w1 TT; clear t1)
            | (go_at_call 59; (with_reducible refine (HCj.out _ (by assumption)).mono ?_); rintro e w1 ⟨rfl, t1⟩; have TT := Touch.trans (by assumption) t1; obtain ⟨S1, a5, n5, c5, w5, hrun, SA, S5, HQ9⟩ := HK.out w1 TT; clear t1))
        all_goals clear S0 SA S5 S1 HK HCi HCj TD TT hrun
        all_goals (try go_wp2_with fail)
        all_goals (go_roundg (l.length - (i + 1)))
        all_goals (first | (case measure => omega) | skip)
        all_goals exact ⟨i + 1, _, _, _, by omega, rfl, by go_num, HQ9.out⟩
      · have : i = l.length := by omega
        subst this
        have HR : Hid (NewZ w wr (.slice so sn sc) PT) := by
          have k := HI.out
          rw [List.take_length] at k
          rw [HP.out.1]; exact k
        clear HI HA HCk HCm HH HP
        go_wp2_with fail
        go_ret
        exact ⟨_, rfl, HR.out⟩
end Go.Proofs.YtijkekkjiboomaaGreatDoor
