/- quirelaw7.VectorBytes. -/
import Derived.Test.YtdblfabbmpdoiaaGreatKnown7
import Derived.Test.YtdblfabbmpdoiaaGreatVAt
import Derived.Test.YtdblfabbmpdoiaaGreatVBw
import Derived.Test.YtdblfabbmpdoiaaGreatPart11
import Derived.Test.YtdblfabbmpdoiaaGreatVBf
import Derived.Test.YtdblfabbmpdoiaaGreatPart13
namespace Go.Proofs.YtdblfabbmpdoiaaGreat
open Go.RowKit Go.Maps
set_option linter.unusedVariables false
set_option linter.unusedSimpArgs false
set_option maxRecDepth 100000

theorem ReadC.sl {w wx : World} {p : Nat} {v : Value} {l : List Ck} (h : ReadC w wx p v l) : SlC wx v l := by
  rcases h.owns.2 with ⟨e, h0⟩ | ⟨g, cap, cur, e, hb, hg, q1, q2, q3, q4⟩
  · have : l = [] := List.length_eq_zero_iff.1 (by omega)
    subst this
    rw [e]; exact SlC.nil wx
  · refine ⟨_, cap, e, (fun h => by cases h), q1, q2, .inr ⟨g, 0, rfl, fun j u hu => ?_⟩⟩
    rw [← q4, List.getElem?_take] at hu
    split at hu
    · rw [cell_of_block hg, Nat.zero_add, ← Array.getElem?_toList]; exact hu
    · cases hu
/-- A new Writer's blocks. -/
theorem wfoot_new {w : World} {p : Nat} (h : Wr w p []) {k : Nat} (hf : wfoot w p k) : k = p ∨ ∃ g cap cur, w.heap[p]? = some (.cells #[.slice (some ⟨g, 0, none⟩) 0 cap] 27 (0, 0)) ∧ w.heap[g]? = some (.cells cur 5) ∧ k = g := by
  obtain ⟨v, hp, hown⟩ := h
  rcases hf with rfl | ⟨u, hu, hk⟩
  · exact .inl rfl
  · rw [cell_of_block hp] at hu
    simp at hu; subst hu
    rcases hown.2 with ⟨rfl, _⟩ | ⟨g, cap, cur, rfl, _, hg, _⟩
    · simp [Value.ownBlock] at hk
    · simp only [Value.ownBlock, Option.some.injEq] at hk
      exact .inr ⟨g, cap, cur, by simpa using hp, hg, hk.symm⟩
abbrev wrO : Obj := .cells #[.slice none 0 0] 27
/-- A Writer that has written nothing and owns nothing. -/
def Wr0 (w : World) (p : Nat) : Prop := w.heap[p]? = some wrO
theorem Wr0.wr {w : World} {p : Nat} (h : Wr0 w p) : Wr w p [] := ⟨_, h, World.ownsRow_nil _ _ _ _⟩
theorem Wr0.foot {w : World} {p : Nat} (h : Wr0 w p) {k : Nat} (hf : wfoot w p k) : k = p := by
  rcases hf with rfl | ⟨u, hu, hk⟩
  · rfl
  · have hp : w.heap[p]? = some wrO := h
    rw [cell_of_block hp] at hu
    simp at hu; subst hu
    simp [Value.ownBlock] at hk
theorem Wr.foot_ne {w : World} {p q : Nat} {bs : List UInt8} (h : Wr w p bs) (hq : Wr0 w q) (hn : p ≠ q) {k : Nat} (hf : wfoot w p k) : k ≠ q := by
  obtain ⟨v, hp, hown⟩ := h
  rcases hf with rfl | ⟨u, hu, hk⟩
  · exact hn
  · rw [cell_of_block hp] at hu
    simp at hu; subst hu
    exact fun e => row_ne hq hown hk e.symm
set_option maxHeartbeats 8000000 in
theorem vectorBytes_any (w : World) (va : Value) (l : List Ck) (sa : SlC w va l) (gm : Nat) (aom : Option Addr) (capm : Nat) (mb : List UInt8) (hno : aom = none → capm = 0) (hL : Lies w gm aom mb) :
    Calls Tryz.prog 3 #[va, .slice aom mb.length capm] w fun e w' => e = .returned (.bool true) ∧ Touch (fun _ => False) w w' := by
  have Sa : Hid (SlC w va l) := sa
  have SM : Hid ((aom = none → capm = 0) ∧ Lies w gm aom mb) := ⟨hno, hL⟩
  obtain ⟨aoa, capa, rfl, _⟩ := sa
  have KN := vknown_any w
  have L0 := fun W => vlight_any l.length aoa capa W
  clear hno hL
  go_enter Tryz.func3, Tryz.ntmps3
  go_wp2_with fail
  refine KN.mono ?_
  rintro e w1 ⟨rfl, t1⟩
  have HT : Hid (Touch (fun _ => False) w w1) := t1
  clear t1 KN
  cases hd0 : decide (l.length ≤ 60) with
  | false =>
    rw [hd0] at L0
    go_wp2_with fail
    refine (L0 _).mono ?_
    rintro e w2 ⟨rfl, rfl⟩
    go_wp2_with fail
    go_ret
    exact ⟨rfl, HT.out⟩
  | true =>
  rw [hd0] at L0
  by_cases hm : mb.length ≤ 500
  case neg =>
    have hm1 : (500 : Int) < (mb.length : Int) := by omega
    go_wp2_with fail
    refine (L0 _).mono ?_
    rintro e w2 ⟨rfl, rfl⟩
    go_wp2_with fail
    go_ret
    exact ⟨rfl, HT.out⟩
  case pos =>
  have hm1 : ¬ ((500 : Int) < (mb.length : Int)) := by omega
  have hl60 : l.length ≤ 60 := by simpa using hd0
  go_wp2_with fail
  refine (L0 _).mono ?_
  rintro e w2 ⟨rfl, hw⟩
  rw [hw]
  clear hw w2 L0 hd0
  have z1 : (w1.alloc wrO).heap.size = w1.heap.size + 1 := by simp
  have HA2 : Touch (fun _ => False) w1 ((w1.alloc wrO).alloc wrO) := ((Touch.refl _ w1).alloc _).alloc _
  have bw : Wr0 ((w1.alloc wrO).alloc wrO) w1.heap.size := by
    show ((w1.alloc wrO).alloc wrO).heap[w1.heap.size]? = some wrO
    rw [Below.heap_alloc _ _ _ (by simp)]
    exact heap_alloc_new _ _
  have bv : Wr0 ((w1.alloc wrO).alloc wrO) (w1.heap.size + 1) := by
    show ((w1.alloc wrO).alloc wrO).heap[w1.heap.size + 1]? = some wrO
    rw [← z1]
    exact heap_alloc_new _ _
  have K3 := vwrite_any w1.heap.size [] l (.slice aoa l.length capa) ((w1.alloc wrO).alloc wrO) bw.wr (Sa.out.touch (HT.out.trans HA2)) (by omega) (by simp)
  have H2 : Hid (Wr0 ((w1.alloc wrO).alloc wrO) w1.heap.size ∧ Wr0 ((w1.alloc wrO).alloc wrO) (w1.heap.size + 1) ∧ Touch (fun _ => False) w ((w1.alloc wrO).alloc wrO) ∧ w.heap.size ≤ w1.heap.size) := ⟨bw, bv, HT.out.trans HA2, HT.out.size⟩
  clear bw bv HA2 z1 HT
  go_wp2_with fail
  refine K3.mono ?_
  rintro e w3 ⟨out, rfl, f3, l3, P3⟩
  have hol : out.length ≤ 60 := by omega
  have HF : Hid (VForm out (atC l)) := f3
  rw [List.nil_append] at P3
  have H3 : Hid (Wr w3 w1.heap.size (encV out) ∧ Wr0 w3 (w1.heap.size + 1) ∧ Touch (fun _ => False) w w3 ∧ w.heap.size ≤ w1.heap.size) := by
    obtain ⟨b1, b2, t, z⟩ := H2.out
    refine ⟨P3.is, ?_, t.then P3.touch (fun k hk hf => by have := b1.foot hf; omega), z⟩
    exact (P3.touch.block _ (lt_of_heap b2) (fun hf => by have := b1.foot hf; omega)).trans b2
  clear P3 f3 l3 K3 H2
  have hE : (encV out).length ≤ 1210 := by have := encV_len out; omega
  have K4 := vclean_any l (.slice aoa l.length capa) w3 (Sa.out.touch H3.out.2.2.1) (by omega)
  go_wp2_with fail
  refine K4.mono ?_
  rintro e w4 ⟨v4, o4, rfl, n4, f4, l4⟩
  obtain rfl : out = o4 := HF.out.eq f4 fun _ => rfl
  have H4 : Hid (Wr w4 w1.heap.size (encV out) ∧ Wr0 w4 (w1.heap.size + 1) ∧ Touch (fun _ => False) w w4 ∧ w.heap.size ≤ w1.heap.size) := by
    obtain ⟨b1, b2, t, z⟩ := H3.out
    exact ⟨b1.keep n4.touch (fun _ _ => id), (n4.touch.block _ (lt_of_heap b2) id).trans b2, t.trans n4.touch, z⟩
  have K5 := vwrite_any (w1.heap.size + 1) [] out v4 w4 H4.out.2.1.wr n4.sl (by omega) (by simp)
  obtain ⟨ao4, cap4, rfl, _⟩ := n4.shape
  clear n4 f4 l4 K4 H3
  go_wp2_with fail
  refine K5.mono ?_
  rintro e w5 ⟨o5, rfl, f5, l5, P5⟩
  obtain rfl : out = o5 := HF.out.eq f5 fun c => (HF.out.tells c).symm
  rw [List.nil_append] at P5
  have H5 : Hid (Wr w5 w1.heap.size (encV out) ∧ Wr w5 (w1.heap.size + 1) (encV out) ∧ Touch (fun _ => False) w w5) := by
    obtain ⟨b1, b2, t, z⟩ := H4.out
    exact ⟨b1.keep P5.touch (fun k hk hf => b1.foot_ne b2 (by omega) hk (b2.foot hf)), P5.is, t.then P5.touch (fun k hk hf => by have := b2.foot hf; omega)⟩
  clear P5 f5 l5 K5 H4
  have K6 := wbytes_any w1.heap.size (encV out) w5 H5.out.1 (by omega)
  go_wp2_with fail
  refine K6.mono ?_
  rintro e w6 ⟨v6, rfl, own6, t6⟩
  obtain ⟨ao6, cap6, g6, rfl, L6, no6, _⟩ := lies_of_owned own6
  have H6 : Hid (Wr w6 (w1.heap.size + 1) (encV out) ∧ Touch (fun _ => False) w w6 ∧ Lies w6 g6 ao6 (encV out) ∧ (ao6 = none → cap6 = 0)) := ⟨H5.out.2.1.keep t6 (fun _ _ => id), H5.out.2.2.trans t6, L6, no6⟩
  clear own6 t6 L6 no6 K6 H5
  have K7 := rvwrite_any l out (.slice aoa l.length capa) w6 (Sa.out.touch H6.out.2.1) HF.out (by omega)
  go_wp2_with fail
  refine K7.mono ?_
  rintro e w7 ⟨v7, rfl, B7⟩
  obtain ⟨ao7, cap7, g7, rfl, L7, _⟩ := lies_of_owned B7.owns
  have H7 : Hid (Wr w7 (w1.heap.size + 1) (encV out) ∧ Touch (fun _ => False) w w7 ∧ Lies w7 g6 ao6 (encV out) ∧ (ao6 = none → cap6 = 0)) := ⟨H6.out.1.keep B7.touch (fun _ _ => id), H6.out.2.1.trans B7.touch, H6.out.2.2.1.touch B7.touch, H6.out.2.2.2⟩
  have K8 := help_bytes g6 g7 ao6 ao7 (encV out) (encV out) _ _ cap6 cap7 rfl rfl w7 H7.out.2.2.1 L7
  rw [show (encV out == encV out) = true from by simp] at K8
  clear B7 L7 K7 H6
  go_wp2_with fail
  refine K8.mono ?_
  rintro e wz ⟨rfl, hw⟩
  rw [hw]
  clear hw wz K8
  have K9 := wbytes_any (w1.heap.size + 1) (encV out) w7 H7.out.1 (by omega)
  go_wp2_with fail
  refine K9.mono ?_
  rintro e w8 ⟨v8, rfl, own8, t8⟩
  obtain ⟨ao8, cap8, g8, rfl, L8, _⟩ := lies_of_owned own8
  have H8 : Hid (Touch (fun _ => False) w w8 ∧ Lies w8 g6 ao6 (encV out) ∧ (ao6 = none → cap6 = 0)) := ⟨H7.out.2.1.trans t8, H7.out.2.2.1.touch t8, H7.out.2.2.2⟩
  have K10 := help_bytes g6 g8 ao6 ao8 (encV out) (encV out) _ _ cap6 cap8 rfl rfl w8 H8.out.2.1 L8
  rw [show (encV out == encV out) = true from by simp] at K10
  clear own8 t8 L8 K9 H7
  go_wp2_with fail
  refine K10.mono ?_
  rintro e wz ⟨rfl, hw⟩
  rw [hw]
  clear hw wz K10
  have K11 := help_copy g6 ao6 (encV out) _ cap6 rfl H8.out.2.2 w8 H8.out.2.1 (by omega)
  go_wp2_with fail
  refine K11.mono ?_
  rintro e w9 ⟨v9, rfl, own9, t9⟩
  have T9 := H8.out.1.trans t9
  obtain ⟨v10, w10, hrun, G10⟩ := runW_append_bytes w9 v9 (encV out) (own0 own9) gm aom mb.length capm mb rfl SM.out.1 (SM.out.2.touch T9) (by omega)
  have T10 : Touch (fun _ => False) w w10 := T9.then G10.touch (fun k hk e => by have := own9.lt k e; have := H8.out.1.size; omega)
  obtain ⟨ao9, cap9, g9, rfl, _⟩ := lies_of_owned own9
  obtain ⟨ao10, cap10, g10, rfl, L10, no10, _⟩ := lies_of_owned G10.is
  have HT10 : Hid (Touch (fun _ => False) w w10) := T10
  have hE2 : (encV out ++ mb).length = (encV out).length + mb.length := List.length_append
  have K12 := newReader_any g10 ao10 (encV out ++ mb) _ cap10 rfl no10 w10 L10 (by omega)
  clear own9 t9 T9 G10 T10 L10 no10 H8 K11 hE2
  generalize (encV out ++ mb).length = N10 at *
  go_wp2_with (at_builtin; refine wpList_append_runB rfl _ _ rfl _ _ _ rfl rfl hrun ?_)
  refine K12.mono ?_
  rintro e w11 ⟨p, g, rfl, R11, hp, hg, t11⟩
  have K13 := vread_good p g out mb (atC l) w11 R11 HF.out (by omega)
  have H11 : Hid (Touch (fun _ => False) w w11 ∧ w.heap.size ≤ p) := ⟨HT10.out.trans t11, Nat.le_trans HT10.out.size hp⟩
  clear R11 hp hg t11 HT10 K12 hrun
  go_wp2_with fail
  refine K13.mono ?_
  rintro e w12 ⟨v12, rfl, C12, R12⟩
  have H12 : Hid (Touch (fun _ => False) w w12 ∧ SlC w12 v12 out ∧ Rd w12 p g mb 0) := ⟨H11.out.1.then C12.touch (fun k hk e => by have := H11.out.2; omega), C12.sl, R12⟩
  obtain ⟨ao12, cap12, rfl⟩ := C12.shape
  clear C12 R12 K13 H11
  have K14 := rvclean_any l (.slice aoa l.length capa) w12 (Sa.out.touch H12.out.1) (by omega)
  go_wp2_with fail
  refine K14.mono ?_
  rintro e w13 ⟨v13, o13, rfl, n13, f13, l13⟩
  obtain rfl : out = o13 := HF.out.eq f13 fun _ => rfl
  have K15 := clocksEq_any out _ v13 w13 (H12.out.2.1.touch n13.touch) n13.sl (by omega)
  have H13 : Hid (Touch (fun _ => False) w w13 ∧ Rd w13 p g mb 0) := ⟨H12.out.1.trans n13.touch, H12.out.2.2.keep n13.touch id (fun _ => id)⟩
  obtain ⟨ao13, cap13, rfl, _⟩ := n13.shape
  clear n13 f13 l13 K14 H12
  go_wp2_with fail
  refine K15.mono ?_
  rintro e w14 ⟨rfl, t14⟩
  have H14 : Hid (Touch (fun _ => False) w w14) := H13.out.1.trans t14
  have K16 := err_any p g mb 0 w14 (H13.out.2.keep t14 id (fun _ => id))
  have K17 := left_any p g mb 0 w14 (H13.out.2.keep t14 id (fun _ => id))
  clear t14 H13 K15
  go_wp2_with fail
  refine K16.mono ?_
  rintro e wz ⟨rfl, hw⟩
  rw [hw]
  clear hw wz K16
  go_wp2_with fail
  refine K17.mono ?_
  rintro e wz ⟨rfl, hw⟩
  rw [hw]
  clear hw wz K17
  go_wp2_with fail
  go_ret
  exact ⟨rfl, H14.out⟩
end Go.Proofs.YtdblfabbmpdoiaaGreat
