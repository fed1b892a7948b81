/- The tables of unicode/utf8, as ValidString reads them. -/
import Derived.Test.YtkiicdleoniioaaDoorShelfV
import Derived.Test.YtkiicdleoniioaaDoorPart1
import Derived.Test.YtkiicdleoniioaaDoorUtfEq
import Derived.Lib.LaidU8T
import Derived.PinnedBridge
import Derived.Test.YtkiicdleoniioaaDoorVCheck0
import Derived.Test.YtkiicdleoniioaaDoorRef2c
namespace Go.Proofs.YtkiicdleoniioaaDoor
open Go.RowKit
set_option linter.unusedVariables false
set_option maxRecDepth 100000

/-- Both tables lie as their initialisers lay them. -/
def TabsU (w : World) : Prop := Go.Lib.Utf8Tabs (Tryd.lays196_ren.g 3) (Tryd.lays196_ren.g 4) w
theorem TabsU.keep {w w' : World} (h : TabsU w) (hT : Touch (fun _ => False) w w') : TabsU w' := by
  have go : ∀ (b o : Nat) (v : Value), w.cell? ⟨b, o, none⟩ = some v → w'.cell? ⟨b, o, none⟩ = some v := fun b o v hv => (hT.cell (World.block_lt_of_cell? _ _ hv) id o).trans hv
  exact ⟨fun c hc => go _ _ _ (h.1 c hc), fun i hi => ⟨go _ _ _ (h.2 i hi).1, go _ _ _ (h.2 i hi).2⟩⟩
theorem tabsU_of {w : World} (h3 : Go.Lib.VarReads Tryd.prog w "unicode/utf8.first" Go.Lib.firstData) (h4 : Go.Lib.VarReads Tryd.prog w "unicode/utf8.acceptRanges" Go.Lib.acceptData) : TabsU w :=
  utf8Tabs_of_readsT (U8Types.of196 Tryd.lays196) ⟨by kernel_rfl, by kernel_rfl, by kernel_rfl, by kernel_rfl, by kernel_rfl, by kernel_rfl, by kernel_rfl⟩ h3 h4
/-- ValidString: the document's texts. -/
theorem valid_any (s : ByteArray) (hs : s.size ≤ 9223372036854775807) (w : World) (hT : TabsU w) : Calls Tryd.prog 49 #[.string s] w fun e w' => e = .returned (.bool (runesOf s.data.toList).isSome) ∧ Touch (fun _ => False) w w' := by
  refine (Tryd.utf8_ValidString s w hs hT).mono ?_
  rintro e w' ⟨rfl, hb⟩
  exact ⟨by rw [valid_runes], ⟨hb.os, hb.tape, hb.output, hb.size, fun k hk _ => hb.block k hk⟩⟩
end Go.Proofs.YtkiicdleoniioaaDoor

/- The contract of value.Check. -/
namespace Go.Proofs.YtkiicdleoniioaaDoor
open Go.RowKit
set_option linter.unusedVariables false
set_option maxRecDepth 100000

set_option maxHeartbeats 1000000 in
theorem v_check_text (n : Int) (f : Nat) (s : ByteArray) (hs : s.size ≤ 9223372036854775807) (w : World) (hT : TabsU w) : Calls Tryd.prog 21 #[.agg #[.int .i64 4, .int .i64 n, .float .f64 f, .string s]] w fun e w' => e = .returned (.int .i64 (errOf ((decide (s.size ≤ 4096) && (runesOf s.data.toList).isSome) && ((n == 0) && ((f : Int) == 0) && true)))) ∧ Touch (fun _ => False) w w' := by
  have HV : Hid (∀ w, TabsU w → Calls Tryd.prog 49 #[.string s] w fun e w' => e = .returned (.bool (runesOf s.data.toList).isSome) ∧ Touch (fun _ => False) w w') := valid_any s hs
  generalize (runesOf s.data.toList).isSome = R at *
  have HU : Hid (TabsU w) := hT
  clear hT
  have hnil : (ByteArray.mk #[]).toList.isEmpty = true := by decide +kernel
  generalize hE : ((n == 0) && ((f : Int) == 0) && true) = E
  have HE : Hid (((n == 0) && ((f : Int) == 0) && (ByteArray.mk #[]).toList.isEmpty) = E) := by rw [Hid, hnil]; exact hE
  clear hE hnil
  have h2 := run_store_f64 Tryd.prog
  have hnot : ∀ (x : Bool) (w : World), (Op.unary .not (.bool x)).run Tryd.prog w = .ok (.bool (!x)) w := fun _ _ => rfl
  by_cases hz : s.size ≤ 4096
  · rw [decide_eq_true hz]
    go_enter Tryd.func21, Tryd.ntmps21
    go_wp2_with fail
    refine (HV.out _ (HU.out.keep (((Touch.refl _ _).alloc _).alloc _))).mono ?_
    rintro e w1 ⟨rfl, hT⟩
    have hb : w1.heap[w.heap.size + 1]? = some (.cells #[.int .i64 4, .int .i64 n, .float .f64 f, .string s] 31) := by
      rw [hT.block _ (by simp) id]
      have := heap_alloc_new (w.alloc (.cells #[.int .i64 4, .int .i64 n, .float .f64 f, .string s] 31)) (.cells #[.int .i64 4, .int .i64 n, .float .f64 f, .string s] 31)
      rwa [show (w.alloc (.cells #[.int .i64 4, .int .i64 n, .float .f64 f, .string s] 31)).heap.size = w.heap.size + 1 by simp] at this
    have d0 : w1.cell? ⟨w.heap.size + 1, 0, none⟩ = some (.int .i64 4) := by rw [cell_of_block hb]; rfl
    have d1 : w1.cell? ⟨w.heap.size + 1, 1, none⟩ = some (.int .i64 n) := by rw [cell_of_block hb]; rfl
    have d2 : w1.cell? ⟨w.heap.size + 1, 2, none⟩ = some (.float .f64 f) := by rw [cell_of_block hb]; rfl
    have d3 : w1.cell? ⟨w.heap.size + 1, 3, none⟩ = some (.string s) := by rw [cell_of_block hb]; rfl
    have z3 : w1.frozen? ⟨w.heap.size + 1, 3, none⟩ = false := free_of_block hb
    have HT1 : Hid (Touch (fun _ => False) w (w1.setCell ⟨w.heap.size + 1, 3, none⟩ (.string ⟨#[]⟩))) := (Touch.trans (((Touch.refl _ _).alloc _).alloc _) hT).setCell _ _ (fun h => by simp only at h; omega)
    clear hT hb HV HU hz
    cases R
    · go_wp2_with fail
      go_ret
      exact ⟨rfl, HT1.out⟩
    · go_wp2_with fail
      refine (v_empty_of 4 n f ⟨#[]⟩ E HE.out _).mono ?_
      rintro e w2 ⟨rfl, rfl⟩
      have HT2 : Hid (Touch (fun _ => False) w ((w1.setCell ⟨w.heap.size + 1, 3, none⟩ (.string ⟨#[]⟩)).alloc (.cells #[.int .i64 4, .int .i64 n, .float .f64 f, .string ⟨#[]⟩] 31))) := HT1.out.alloc _
      clear HT1 d0 d1 d2 d3 z3
      cases E
      · go_wp2_with fail
        go_ret
        exact ⟨rfl, HT2.out⟩
      · go_wp2_with fail
        go_ret
        exact ⟨rfl, HT2.out⟩
  · rw [decide_eq_false hz]
    simp only [Bool.false_and]
    clear HV HU
    go_enter Tryd.func21, Tryd.ntmps21
    go_wp2_with fail
    go_ret
    refine ⟨rfl, ?_⟩
    repeat (with_reducible first | exact Touch.refl _ _ | refine Touch.alloc ?_ _ | refine Touch.drewN ?_ _ | refine Touch.setCell ?_ _ _ (fun h => by simp only at h; omega))

/-- What value.Check answers is what the document's does. -/
theorem v_check (v : V) (hs : v.s.size ≤ 9223372036854775807) (w : World) (hT : TabsU w) : Calls Tryd.prog 21 #[v.val] w fun e w' => e = .returned (.int .i64 (refCheck v)) ∧ Touch (fun _ => False) w w' := by
  obtain ⟨k, n, f, s⟩ := v
  have key : ∀ b : Bool, vOk ⟨k, n, f, s⟩ = b → refCheck ⟨k, n, f, s⟩ = errOf b := by
    intro b h; unfold refCheck errOf; rw [h]
  have ez : ((0 : Int) == 0) = true := rfl
  have en : (((0 : Nat) : Int) == 0) = true := rfl
  by_cases h0 : k = 0
  · subst h0; rw [key ((n == 0) && ((f : Int) == 0) && s.toList.isEmpty) (by unfold vOk; simp)]; exact v_check_null n f s w
  by_cases h5 : k = 5
  · subst h5; rw [key ((n == 0) && ((f : Int) == 0) && s.toList.isEmpty) (by unfold vOk; simp)]; exact v_check_map n f s w
  by_cases h1 : k = 1
  · subst h1; rw [key (((n == 0) || (n == 1)) && (((0 : Int) == 0) && ((f : Int) == 0) && s.toList.isEmpty)) (by unfold vOk; simp [Bool.and_assoc])]; exact v_check_bool n f s w
  by_cases h2 : k = 2
  · subst h2; rw [key (((0 : Int) == 0) && ((f : Int) == 0) && s.toList.isEmpty) (by unfold vOk; simp)]; exact v_check_int n f s w
  by_cases h3 : k = 3
  · subst h3; rw [key ((n == 0) && (((0 : Nat) : Int) == 0) && s.toList.isEmpty) (by unfold vOk; simp)]; exact v_check_float n f s w
  by_cases h4 : k = 4
  · subst h4
    rw [key ((decide (s.size ≤ 4096) && (runesOf s.data.toList).isSome) && ((n == 0) && ((f : Int) == 0) && true)) (by
      unfold vOk; simp only [show ¬ ((4 : Int) = 0 ∨ (4 : Int) = 5) by decide, show ¬ ((4 : Int) = 1) by decide, show ¬ ((4 : Int) = 2) by decide, show ¬ ((4 : Int) = 3) by decide, if_false, if_true]
      cases (n == 0) <;> cases ((f : Int) == 0) <;> cases decide (s.size ≤ 4096) <;> cases (runesOf s.data.toList).isSome <;> rfl)]
    exact v_check_text n f s hs w hT
  · rw [key false (by unfold vOk; simp [h0, h1, h2, h3, h4, h5])]; exact v_check_other k n f s h0 h1 h2 h3 h4 h5 w
end Go.Proofs.YtkiicdleoniioaaDoor
