/- quirelaw6.IdsClean. -/
import Derived.Test.YtipncloegjcjfaaIdAlg
import Derived.Test.YtipncloegjcjfaaRfHas
import Derived.Test.YtipncloegjcjfaaArgR
namespace Go.Proofs.Ytipncloegjcjfaa
open Go.RowKit Go.Maps
set_option linter.unusedVariables false
set_option linter.unusedSimpArgs false
set_option maxRecDepth 100000

/-- What lies while the statement asks. -/
structure Env6 (w1 : World) (n : Nat) (c k : Int) (l oc : List Rg) (vl vi vc : Value) (W : World) : Prop where
  t : Touch (fun _ => False) w1 W
  sl : SlR W vl l
  si : SlR W vi l
  sc : SlR W vc oc
  bx : W.heap[n]? = some (idO c k)
theorem Env6.on {w1 : World} {n : Nat} {c k : Int} {l oc : List Rg} {vl vi vc : Value} {W W' : World} (h : Env6 w1 n c k l oc vl vi vc W) (t : Touch (fun _ => False) W W') : Env6 w1 n c k l oc vl vi vc W' :=
  ⟨h.t.trans t, h.sl.touch t, h.si.touch t, h.sc.touch t, (t.block _ (lt_of_heap h.bx) id).trans h.bx⟩
theorem Env6.cells {w1 : World} {n : Nat} {c k : Int} {l oc : List Rg} {vl vi vc : Value} {W : World} (h : Env6 w1 n c k l oc vl vi vc W) : W.cell? ⟨n, 0, none⟩ = some (.int .u64 c) ∧ W.cell? ⟨n, 1, none⟩ = some (.int .u64 k) :=
  ⟨by rw [cell_of_block h.bx]; rfl, by rw [cell_of_block h.bx]; rfl⟩
theorem SlR.lies {w : World} {ao : Option Addr} {n cap : Nat} {l : List Rg} (h : SlR w (.slice ao n cap) l) : (ao = none → cap = 0) ∧ LiesR w ao l := by
  obtain ⟨ao', cap', e, h1, h2, h3, h4⟩ := h
  simp only [Value.slice.injEq] at e
  obtain ⟨rfl, rfl, rfl⟩ := e
  exact ⟨h1, h4⟩
theorem right_touch (c k : Int) (w : World) : Calls Try.prog 16 #[idV c k] w fun e w' => e = .returned (.bool (numOk c && numOk k)) ∧ Touch (fun _ => False) w w' :=
  (right_any c k w).mono fun e w' q => ⟨q.1, by rw [q.2]; exact (Touch.refl _ w).alloc _⟩
theorem rRight_touch (c k : Int) (w : World) : Calls Try.prog 17 #[idV c k] w fun e w' => e = .returned (.bool (numOk c && numOk k)) ∧ Touch (fun _ => False) w w' :=
  (rRight_any c k w).mono fun e w' q => ⟨q.1, by rw [q.2]; exact (Touch.refl _ w).alloc _⟩
set_option maxHeartbeats 16000000 in
theorem idsClean_any (w : World) (vl : Value) (l : List Rg) (sl : SlR w vl l) (gl : ∀ r ∈ l, fitsR r) (c k : Int) :
    Calls Try.prog 3 #[vl, idV c k] w fun e w' => e = .returned (.bool true) ∧ Touch (fun _ => False) w w' := by
  have SL : Hid (SlR w vl l) := sl
  obtain ⟨ao, cap, rfl, _⟩ := sl
  clear gl
  have HB0 : Hid ((w.alloc (idO c k)).heap[w.heap.size]? = some (idO c k)) := heap_alloc_new w _
  have HT0 : Hid (Touch (fun _ => False) w (w.alloc (idO c k))) := (Touch.refl _ w).alloc _
  have KN := known_any (w.alloc (idO c k))
  have L0 := fun W => light_any l.length ao cap W
  go_enter Try.func3, Try.ntmps3
  go_wp2_with fail
  refine KN.mono ?_
  rintro e w0 ⟨rfl, t0⟩
  have HT : Hid (Touch (fun _ => False) w w0) := HT0.out.trans t0
  have HBx : Hid (w0.heap[w.heap.size]? = some (idO c k)) := (t0.block _ (lt_of_heap HB0.out) id).trans HB0.out
  clear t0 KN HT0 HB0
  cases hd0 : decide (l.length ≤ 60) with
  | false =>
    rw [hd0] at L0
    go_wp2_with fail
    refine (L0 _).mono ?_
    rintro e w2 ⟨rfl, rfl⟩
    go_wp2_with fail
    go_ret
    exact ⟨rfl, HT.out⟩
  | true =>
  rw [hd0] at L0
  go_wp2_with fail
  refine (L0 _).mono ?_
  rintro e w2 ⟨rfl, hw⟩
  rw [hw]
  clear hw w2 L0
  have hl60 : l.length ≤ 60 := by simpa using hd0
  have hS0 := SL.out.touch HT.out
  obtain ⟨v5, w5, hrun, hN5, _⟩ := (NewR.nil w0 w0 (Touch.refl _ _)).app ao l.length cap l rfl hS0.lies.1 hS0.lies.2 (by simp; omega)
  rw [List.nil_append] at hN5
  have HI : Hid (NewR w0 w5 v5 l) := hN5
  obtain ⟨aoi, capi, hv5, _⟩ := hN5.shape
  subst hv5
  have C1 := cleanI_any l _ w5 HI.out.sl (by omega)
  clear hN5 hS0
  go_wp2_with (at_builtin; refine wpList_append_runR rfl _ _ rfl _ _ _ rfl rfl hrun ?_)
  refine C1.mono ?_
  rintro e w1 ⟨v6, oc, rfl, n6, f6, l6⟩
  obtain ⟨aoc, capc, rfl, _⟩ := n6.shape
  have E : Hid (Env6 w1 w.heap.size c k l oc (.slice ao l.length cap) (.slice aoi l.length capi) (.slice aoc oc.length capc) w1) := by
    have t5 := HI.out.touch.trans n6.touch
    exact ⟨Touch.refl _ _, SL.out.touch (HT.out.trans t5), HI.out.sl.touch n6.touch, n6.sl, (t5.block _ (lt_of_heap HBx.out) id).trans HBx.out⟩
  have HF : Hid (Form (tns oc) (turnOf (tns l))) := f6
  have HT1 : Hid (Touch (fun _ => False) w w1) := HT.out.trans (HI.out.touch.trans n6.touch)
  have HB : ∃ hb, Hid (hasB l c k = hb ∧ hasB oc c k = hb) := ⟨_, rfl, by rw [hasB_turn, hasB_turn, HF.out.1.turnOf, HF.out.2]⟩
  obtain ⟨hb, HB⟩ := HB
  have HR : ∃ rb, Hid ((numOk c && numOk k) = rb) := ⟨_, rfl⟩
  obtain ⟨rb, HR⟩ := HR
  have HM : ∃ mm, Hid (many (turnOf (tns l)) = mm) := ⟨_, rfl⟩
  obtain ⟨mm, HM⟩ := HM
  have S0 := E.out.cells
  have S1 := (E.out.on (Touch.refl _ _).drew).cells
  clear n6 f6 C1 hrun HI HT HBx SL
  go_wp2_with fail
  go_region_held3 (fun W => W.cell? ⟨w.heap.size, 0, none⟩ = some (.int .u64 c) ∧ W.cell? ⟨w.heap.size, 1, none⟩ = some (.int .u64 k)) (first | assumption)
    (first | (go_at_call 13; first | ((with_reducible refine (rclean_any l _ _ E.out.sl (by omega)).mono ?_); rintro e w3 ⟨v3, o3, rfl, n3, f3, _⟩; (obtain rfl : oc = o3 := (f3.same HF.out).symm); (obtain ⟨ao3, cap3, rfl, _⟩ := n3.shape); (have X : Hid (SlR w3 (.slice ao3 oc.length cap3) oc) := n3.sl); have t3 := n3.touch; (replace E : Hid (Env6 w1 w.heap.size c k l oc (.slice ao l.length cap) (.slice aoi l.length capi) (.slice aoc oc.length capc) w3) := E.out.on t3); have S3 := E.out.cells; clear t3; clear n3 f3) | ((with_reducible refine (rclean_any l _ _ (E.out.on (Touch.refl _ _).drew).sl (by omega)).mono ?_); rintro e w3 ⟨v3, o3, rfl, n3, f3, _⟩; (obtain rfl : oc = o3 := (f3.same HF.out).symm); (obtain ⟨ao3, cap3, rfl, _⟩ := n3.shape); (have X : Hid (SlR w3 (.slice ao3 oc.length cap3) oc) := n3.sl); have t3 := n3.touch; (replace E : Hid (Env6 w1 w.heap.size c k l oc (.slice ao l.length cap) (.slice aoi l.length capi) (.slice aoc oc.length capc) w3) := (E.out.on (Touch.refl _ _).drew).on t3); have S3 := E.out.cells; clear t3; clear n3 f3)) | (go_at_call 11; first | ((with_reducible refine (cleanI_any oc _ _ E.out.sc (by omega)).mono ?_); rintro e w3 ⟨v3, o3, rfl, n3, f3, _⟩; (obtain rfl : oc = o3 := (f3.same ⟨HF.out.1, fun c k => (HF.out.1.turnOf c k).symm⟩).symm); (obtain ⟨ao3, cap3, rfl, _⟩ := n3.shape); (have X : Hid (SlR w3 (.slice ao3 oc.length cap3) oc) := n3.sl); have t3 := n3.touch; (replace E : Hid (Env6 w1 w.heap.size c k l oc (.slice ao l.length cap) (.slice aoi l.length capi) (.slice aoc oc.length capc) w3) := E.out.on t3); have S3 := E.out.cells; clear t3; clear n3 f3) | ((with_reducible refine (cleanI_any oc _ _ (E.out.on (Touch.refl _ _).drew).sc (by omega)).mono ?_); rintro e w3 ⟨v3, o3, rfl, n3, f3, _⟩; (obtain rfl : oc = o3 := (f3.same ⟨HF.out.1, fun c k => (HF.out.1.turnOf c k).symm⟩).symm); (obtain ⟨ao3, cap3, rfl, _⟩ := n3.shape); (have X : Hid (SlR w3 (.slice ao3 oc.length cap3) oc) := n3.sl); have t3 := n3.touch; (replace E : Hid (Env6 w1 w.heap.size c k l oc (.slice ao l.length cap) (.slice aoi l.length capi) (.slice aoc oc.length capc) w3) := (E.out.on (Touch.refl _ _).drew).on t3); have S3 := E.out.cells; clear t3; clear n3 f3)) | (go_at_call 12; first | ((with_reducible refine (rangesEq_any oc _ _ _ E.out.sc X.out (by omega)).mono ?_); rintro e w3 ⟨rfl, t3⟩; (replace E : Hid (Env6 w1 w.heap.size c k l oc (.slice ao l.length cap) (.slice aoi l.length capi) (.slice aoc oc.length capc) w3) := E.out.on t3); have S3 := E.out.cells; clear t3; clear X) | ((with_reducible refine (rangesEq_any oc _ _ _ (E.out.on (Touch.refl _ _).drew).sc (X.out.touch (Touch.refl _ _).drew) (by omega)).mono ?_); rintro e w3 ⟨rfl, t3⟩; (replace E : Hid (Env6 w1 w.heap.size c k l oc (.slice ao l.length cap) (.slice aoi l.length capi) (.slice aoc oc.length capc) w3) := (E.out.on (Touch.refl _ _).drew).on t3); have S3 := E.out.cells; clear t3; clear X) | ((with_reducible refine (rangesEq_any oc _ _ _ X.out E.out.sc (by omega)).mono ?_); rintro e w3 ⟨rfl, t3⟩; (replace E : Hid (Env6 w1 w.heap.size c k l oc (.slice ao l.length cap) (.slice aoi l.length capi) (.slice aoc oc.length capc) w3) := E.out.on t3); have S3 := E.out.cells; clear t3; clear X) | ((with_reducible refine (rangesEq_any oc _ _ _ (X.out.touch (Touch.refl _ _).drew) (E.out.on (Touch.refl _ _).drew).sc (by omega)).mono ?_); rintro e w3 ⟨rfl, t3⟩; (replace E : Hid (Env6 w1 w.heap.size c k l oc (.slice ao l.length cap) (.slice aoi l.length capi) (.slice aoc oc.length capc) w3) := (E.out.on (Touch.refl _ _).drew).on t3); have S3 := E.out.cells; clear t3; clear X) | ((with_reducible refine (rangesEq_any l _ _ _ E.out.si E.out.sl (by omega)).mono ?_); rintro e w3 ⟨rfl, t3⟩; (replace E : Hid (Env6 w1 w.heap.size c k l oc (.slice ao l.length cap) (.slice aoi l.length capi) (.slice aoc oc.length capc) w3) := E.out.on t3); have S3 := E.out.cells; clear t3) | ((with_reducible refine (rangesEq_any l _ _ _ (E.out.on (Touch.refl _ _).drew).si (E.out.on (Touch.refl _ _).drew).sl (by omega)).mono ?_); rintro e w3 ⟨rfl, t3⟩; (replace E : Hid (Env6 w1 w.heap.size c k l oc (.slice ao l.length cap) (.slice aoi l.length capi) (.slice aoc oc.length capc) w3) := (E.out.on (Touch.refl _ _).drew).on t3); have S3 := E.out.cells; clear t3)) | (go_at_call 14; first | ((with_reducible refine ((has_any l _ c k _ E.out.sl (by omega))).mono ?_); rintro e w3 ⟨he, t3⟩; (rw [HB.out.1] at he); subst he; (replace E : Hid (Env6 w1 w.heap.size c k l oc (.slice ao l.length cap) (.slice aoi l.length capi) (.slice aoc oc.length capc) w3) := E.out.on t3); have S3 := E.out.cells; clear t3) | ((with_reducible refine ((has_any l _ c k _ (E.out.on (Touch.refl _ _).drew).sl (by omega))).mono ?_); rintro e w3 ⟨he, t3⟩; (rw [HB.out.1] at he); subst he; (replace E : Hid (Env6 w1 w.heap.size c k l oc (.slice ao l.length cap) (.slice aoi l.length capi) (.slice aoc oc.length capc) w3) := (E.out.on (Touch.refl _ _).drew).on t3); have S3 := E.out.cells; clear t3) | ((with_reducible refine ((has_any oc _ c k _ E.out.sc (by omega))).mono ?_); rintro e w3 ⟨he, t3⟩; (rw [HB.out.2] at he); subst he; (replace E : Hid (Env6 w1 w.heap.size c k l oc (.slice ao l.length cap) (.slice aoi l.length capi) (.slice aoc oc.length capc) w3) := E.out.on t3); have S3 := E.out.cells; clear t3) | ((with_reducible refine ((has_any oc _ c k _ (E.out.on (Touch.refl _ _).drew).sc (by omega))).mono ?_); rintro e w3 ⟨he, t3⟩; (rw [HB.out.2] at he); subst he; (replace E : Hid (Env6 w1 w.heap.size c k l oc (.slice ao l.length cap) (.slice aoi l.length capi) (.slice aoc oc.length capc) w3) := (E.out.on (Touch.refl _ _).drew).on t3); have S3 := E.out.cells; clear t3)) | (go_at_call 15; first | ((with_reducible refine ((rhas_any l _ c k _ E.out.sl (by omega))).mono ?_); rintro e w3 ⟨he, t3⟩; (rw [HB.out.1] at he); subst he; (replace E : Hid (Env6 w1 w.heap.size c k l oc (.slice ao l.length cap) (.slice aoi l.length capi) (.slice aoc oc.length capc) w3) := E.out.on t3); have S3 := E.out.cells; clear t3) | ((with_reducible refine ((rhas_any l _ c k _ (E.out.on (Touch.refl _ _).drew).sl (by omega))).mono ?_); rintro e w3 ⟨he, t3⟩; (rw [HB.out.1] at he); subst he; (replace E : Hid (Env6 w1 w.heap.size c k l oc (.slice ao l.length cap) (.slice aoi l.length capi) (.slice aoc oc.length capc) w3) := (E.out.on (Touch.refl _ _).drew).on t3); have S3 := E.out.cells; clear t3)) | (go_at_call 16; first | ((with_reducible refine (right_touch c k _).mono ?_); rintro e w3 ⟨he, t3⟩; (rw [HR.out] at he); subst he; (replace E : Hid (Env6 w1 w.heap.size c k l oc (.slice ao l.length cap) (.slice aoi l.length capi) (.slice aoc oc.length capc) w3) := E.out.on t3); have S3 := E.out.cells; clear t3)) | (go_at_call 17; first | ((with_reducible refine (rRight_touch c k _).mono ?_); rintro e w3 ⟨he, t3⟩; (rw [HR.out] at he); subst he; (replace E : Hid (Env6 w1 w.heap.size c k l oc (.slice ao l.length cap) (.slice aoi l.length capi) (.slice aoc oc.length capc) w3) := E.out.on t3); have S3 := E.out.cells; clear t3)) | (go_at_call 18; first | ((with_reducible refine ((count_any l _ _ E.out.sl (by omega))).mono ?_); rintro e w3 ⟨o3, he, f3, _, t3⟩; (rw [many_cnt f3, HM.out] at he); subst he; (replace E : Hid (Env6 w1 w.heap.size c k l oc (.slice ao l.length cap) (.slice aoi l.length capi) (.slice aoc oc.length capc) w3) := E.out.on t3); have S3 := E.out.cells; clear t3; clear f3) | ((with_reducible refine ((count_any l _ _ (E.out.on (Touch.refl _ _).drew).sl (by omega))).mono ?_); rintro e w3 ⟨o3, he, f3, _, t3⟩; (rw [many_cnt f3, HM.out] at he); subst he; (replace E : Hid (Env6 w1 w.heap.size c k l oc (.slice ao l.length cap) (.slice aoi l.length capi) (.slice aoc oc.length capc) w3) := (E.out.on (Touch.refl _ _).drew).on t3); have S3 := E.out.cells; clear t3; clear f3)) | (go_at_call 19; first | ((with_reducible refine ((rcount_any l _ _ E.out.sl (by omega))).mono ?_); rintro e w3 ⟨o3, he, f3, _, t3⟩; (rw [many_cnt f3, HM.out] at he); subst he; (replace E : Hid (Env6 w1 w.heap.size c k l oc (.slice ao l.length cap) (.slice aoi l.length capi) (.slice aoc oc.length capc) w3) := E.out.on t3); have S3 := E.out.cells; clear t3; clear f3) | ((with_reducible refine ((rcount_any l _ _ (E.out.on (Touch.refl _ _).drew).sl (by omega))).mono ?_); rintro e w3 ⟨o3, he, f3, _, t3⟩; (rw [many_cnt f3, HM.out] at he); subst he; (replace E : Hid (Env6 w1 w.heap.size c k l oc (.slice ao l.length cap) (.slice aoi l.length capi) (.slice aoc oc.length capc) w3) := (E.out.on (Touch.refl _ _).drew).on t3); have S3 := E.out.cells; clear t3; clear f3)))
  all_goals (try go_wp2_with fail)
  all_goals go_ret
  all_goals exact ⟨rfl, HT1.out.trans E.out.t⟩
end Go.Proofs.Ytipncloegjcjfaa
