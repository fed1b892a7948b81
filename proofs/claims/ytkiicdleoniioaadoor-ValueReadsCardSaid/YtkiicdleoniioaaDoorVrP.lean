/- The contracts of value's writable, readParts and Read on any bytes. -/
import Derived.Test.YtkiicdleoniioaaDoorPartsF
import Derived.Test.YtkiicdleoniioaaDoorVrM
import Derived.Test.YtkiicdleoniioaaDoorPart12
import Derived.Test.YtkiicdleoniioaaDoorPart13
import Derived.Test.YtkiicdleoniioaaDoorPart8
import Derived.Deep.RegionHeld3
namespace Go.Proofs.YtkiicdleoniioaaDoor
open Go.RowKit
set_option linter.unusedVariables false
set_option linter.unusedSimpArgs false
set_option maxRecDepth 100000

theorem TabsU.keepT {S : Nat → Prop} {w w' : World} (h : TabsU w) (hT : Touch S w w') (h3 : ¬ S (Tryd.lays196_ren.g 3)) (h4 : ¬ S (Tryd.lays196_ren.g 4)) : TabsU w' := by
  have go : ∀ (b o : Nat) (v : Value), ¬ S b → w.cell? ⟨b, o, none⟩ = some v → w'.cell? ⟨b, o, none⟩ = some v := fun b o v hb hv => (hT.cell (World.block_lt_of_cell? _ _ hv) hb o).trans hv
  exact ⟨fun c hc => go _ _ _ h3 (h.1 c hc), fun i hi => ⟨go _ _ _ h4 (h.2 i hi).1, go _ _ _ h4 (h.2 i hi).2⟩⟩

/-- A value that Check takes, with the bits that Write would write. -/
def isWr (v : V) : Bool := decide (refCheck v = 0 ∧ refBits v.f = v.f)

set_option maxHeartbeats 1000000 in
theorem w_yes (v : V) (hs : v.s.size ≤ 9223372036854775807) (h : refCheck v = 0) (w : World) (hU : TabsU w) : Calls Tryd.prog 26 #[v.val] w fun e w' => e = .returned (.bool (isWr v)) ∧ Touch (fun _ => False) w w' := by
  have HU : Hid (TabsU w) := hU
  have HCk : Hid (∀ w, TabsU w → Calls Tryd.prog 21 #[v.val] w fun e w' => e = .returned (.int .i64 0) ∧ Touch (fun _ => False) w w') := by
    intro w hw
    have := v_check v hs w hw
    rw [h] at this
    exact this
  have HN : Hid (∀ w, Calls Tryd.prog 36 #[.float .f64 v.f] w fun e w' => e = .returned (.float .f64 (refBits v.f)) ∧ w' = w) := fun w => v_oneNaN v.f w
  have hb : (((v.f : Int)) == ((refBits v.f : Nat) : Int)) = isWr v := by
    unfold isWr
    rw [Bool.eq_iff_iff]
    simp [h]
    constructor <;> intro e <;> omega
  clear h hU hs
  generalize isWr v = B at *
  generalize refBits v.f = F at *
  obtain ⟨k, n, f, s⟩ := v
  simp only [V.val] at *
  have hfb := f64bits_run
  go_enter Tryd.func26, Tryd.ntmps26
  go_wp2_with fail
  have hb1 := boxes1_keep (w0 := w) (A := w.heap.size) (w := w.alloc (.cells #[.int .i64 k, .int .i64 n, .float .f64 f, .string s] 31)) (w' := (w.alloc (.cells #[.int .i64 k, .int .i64 n, .float .f64 f, .string s] 31)).drew) ⟨new1 _ _ _ 0, new1 _ _ _ 1, new1 _ _ _ 2, new1 _ _ _ 3, (Touch.refl _ _).alloc _⟩ (Touch.refl _ _).drew
  go_region_held3 (fun w' => w'.cell? ⟨w.heap.size, 0, none⟩ = some (.int .i64 k) ∧ w'.cell? ⟨w.heap.size, 1, none⟩ = some (.int .i64 n) ∧ w'.cell? ⟨w.heap.size, 2, none⟩ = some (.float .f64 f) ∧ w'.cell? ⟨w.heap.size, 3, none⟩ = some (.string s) ∧ Hid (Touch (fun _ => False) w w')) (assumption)
    (first
      | (go_at_call 21; (with_reducible refine (HCk.out _ (HU.out.keep (boxes1_touch (by assumption)))).mono ?_); rintro e w' ⟨rfl, hT⟩; have hS2 := boxes1_keep (by assumption) hT; clear hT)
      | (go_at_call 36; (with_reducible refine (HN.out _).mono ?_); rintro e w' ⟨rfl, rfl⟩))
  have HT5 := boxes1_touch hS2
  have HT6 : Hid (Touch (fun _ => False) w _) := HT5
  clear HT5 hS2 hb1
  cases B
  all_goals
    go_wp2_with fail
    go_ret
    exact ⟨rfl, HT6.out⟩

set_option maxHeartbeats 1000000 in
theorem w_no (v : V) (hs : v.s.size ≤ 9223372036854775807) (h : refCheck v ≠ 0) (w : World) (hU : TabsU w) : Calls Tryd.prog 26 #[v.val] w fun e w' => e = .returned (.bool (isWr v)) ∧ Touch (fun _ => False) w w' := by
  have h20 : refCheck v = 20 := by
    unfold refCheck at h ⊢
    split
    · rename_i h1; rw [if_pos h1] at h; exact absurd rfl h
    · rfl
  have hB : isWr v = false := by simp [isWr, h]
  rw [hB]
  have HU : Hid (TabsU w) := hU
  have HCk : Hid (∀ w, TabsU w → Calls Tryd.prog 21 #[v.val] w fun e w' => e = .returned (.int .i64 20) ∧ Touch (fun _ => False) w w') := by
    intro w hw
    have := v_check v hs w hw
    rw [h20] at this
    exact this
  clear h hU hs h20 hB
  obtain ⟨k, n, f, s⟩ := v
  simp only [V.val] at *
  go_enter Tryd.func26, Tryd.ntmps26
  go_wp2_with fail
  have hb1 := boxes1_keep (w0 := w) (A := w.heap.size) (w := w.alloc (.cells #[.int .i64 k, .int .i64 n, .float .f64 f, .string s] 31)) (w' := (w.alloc (.cells #[.int .i64 k, .int .i64 n, .float .f64 f, .string s] 31)).drew) ⟨new1 _ _ _ 0, new1 _ _ _ 1, new1 _ _ _ 2, new1 _ _ _ 3, (Touch.refl _ _).alloc _⟩ (Touch.refl _ _).drew
  refine wp_region_held_drew (S := (fun w' => w'.cell? ⟨w.heap.size, 0, none⟩ = some (.int .i64 k) ∧ w'.cell? ⟨w.heap.size, 1, none⟩ = some (.int .i64 n) ∧ w'.cell? ⟨w.heap.size, 2, none⟩ = some (.float .f64 f) ∧ w'.cell? ⟨w.heap.size, 3, none⟩ = some (.string s) ∧ Hid (Touch (fun _ => False) w w'))) (by kernel_rfl) hb1 (fun hHeld => ?_)
  clear hb1
  refine wpAnyH_take (i := 0) (oi := { dst := some 3, op := Go.Op.load 31 (Go.Operand.tmp 1), type := 31, pos := "bytes.go:59", after := #[], guard := none }) (v := (.agg #[.int .i64 k, .int .i64 n, .float .f64 f, .string s])) rfl (by kernel_rfl) (by kernel_rfl) (by kernel_rfl) (fun _ _ _ h => h) (Or.inl ⟨by rfl, ?_⟩) hHeld ?_
  · intro w hSw; go_simp
  simp only [Act.put, List.setIfInBounds_toArray]
  refine wpAnyH_ready (rs := [1]) (by kernel_rfl) (by simp) ?_
  refine AllReadyH.cons (o := { dst := some 4, op := Go.Op.call { callee := Go.Callee.value (Go.Operand.func 21), args := #[Go.Operand.tmp 3], argTypes := #[31] }, type := 34, pos := "bytes.go:59", after := #[{ on := 0, ground := Go.Ground.data }], guard := none }) rfl (fun K hK => ?_) AllReadyH.nil
  go_simp
  refine (HCk.out _ (HU.out.keep (boxes1_touch hHeld))).mono ?_
  rintro e w' ⟨rfl, hT⟩
  have hS2 := boxes1_keep hHeld hT
  clear hT
  refine hK.out _ _ hS2 (fun hHeld => ?_)
  clear hK K hS2
  refine wpAnyH_take (i := 2) (oi := { dst := some 5, op := Go.Op.binOp Go.BinOp.eql 34 (Go.Operand.tmp 4) (Go.Operand.const (Go.Value.int Go.IntKind.i64 0)) 34, type := 4, pos := "bytes.go:59", after := #[{ on := 1, ground := Go.Ground.data }], guard := none }) (v := .bool false) rfl (by kernel_rfl) (by kernel_rfl) (by kernel_rfl) (fun _ _ _ h => h) (Or.inl ⟨by rfl, ?_⟩) hHeld ?_
  · intro w hSw; go_simp
  simp only [Act.put, List.setIfInBounds_toArray]
  refine wpAnyH_take (i := 3) (oi := { dst := some 6, op := Go.Op.move (Go.Operand.tmp 5), type := 4, pos := "bytes.go:59", after := #[{ on := 2, ground := Go.Ground.data }, { on := 1, ground := Go.Ground.chain }], guard := none }) (v := .bool false) rfl (by kernel_rfl) (by kernel_rfl) (by kernel_rfl) (fun _ _ _ h => h) (Or.inl ⟨by rfl, ?_⟩) hHeld ?_
  · intro w hSw; go_simp
  simp only [Act.put, List.setIfInBounds_toArray]
  refine wpAnyH_take (i := 4) (oi := { dst := some 7, op := Go.Op.fieldAddr 31 (Go.Operand.tmp 1) 2, type := 0, pos := "bytes.go:59", after := #[{ on := 3, ground := Go.Ground.guard }], guard := some (3, true) }) (v := undef) rfl (by kernel_rfl) (by kernel_rfl) (by kernel_rfl) (fun _ _ _ h => h) (Or.inr ⟨by rfl, rfl⟩) hHeld ?_
  simp only [Act.put, List.setIfInBounds_toArray]
  refine wpAnyH_take (i := 5) (oi := { dst := some 8, op := Go.Op.load 29 (Go.Operand.tmp 7), type := 29, pos := "bytes.go:59", after := #[{ on := 4, ground := Go.Ground.data }, { on := 3, ground := Go.Ground.guard }], guard := some (3, true) }) (v := undef) rfl (by kernel_rfl) (by kernel_rfl) (by kernel_rfl) (fun _ _ _ h => h) (Or.inr ⟨by rfl, rfl⟩) hHeld ?_
  simp only [Act.put, List.setIfInBounds_toArray]
  refine wpAnyH_take (i := 6) (oi := { dst := some 9, op := Go.Op.call { callee := Go.Callee.value (Go.Operand.func 20), args := #[Go.Operand.tmp 8], argTypes := #[29] }, type := 46, pos := "bytes.go:59", after := #[{ on := 5, ground := Go.Ground.data }, { on := 3, ground := Go.Ground.chain }, { on := 3, ground := Go.Ground.guard }], guard := some (3, true) }) (v := undef) rfl (by kernel_rfl) (by kernel_rfl) (by kernel_rfl) (fun _ _ _ h => h) (Or.inr ⟨by rfl, rfl⟩) hHeld ?_
  simp only [Act.put, List.setIfInBounds_toArray]
  refine wpAnyH_take (i := 7) (oi := { dst := some 10, op := Go.Op.fieldAddr 31 (Go.Operand.tmp 1) 2, type := 0, pos := "bytes.go:59", after := #[{ on := 3, ground := Go.Ground.guard }], guard := some (3, true) }) (v := undef) rfl (by kernel_rfl) (by kernel_rfl) (by kernel_rfl) (fun _ _ _ h => h) (Or.inr ⟨by rfl, rfl⟩) hHeld ?_
  simp only [Act.put, List.setIfInBounds_toArray]
  refine wpAnyH_take (i := 8) (oi := { dst := some 11, op := Go.Op.load 29 (Go.Operand.tmp 10), type := 29, pos := "bytes.go:59", after := #[{ on := 7, ground := Go.Ground.data }, { on := 3, ground := Go.Ground.guard }], guard := some (3, true) }) (v := undef) rfl (by kernel_rfl) (by kernel_rfl) (by kernel_rfl) (fun _ _ _ h => h) (Or.inr ⟨by rfl, rfl⟩) hHeld ?_
  simp only [Act.put, List.setIfInBounds_toArray]
  refine wpAnyH_take (i := 9) (oi := { dst := some 12, op := Go.Op.call { callee := Go.Callee.value (Go.Operand.func 36), args := #[Go.Operand.tmp 11], argTypes := #[29] }, type := 29, pos := "bytes.go:59", after := #[{ on := 8, ground := Go.Ground.data }, { on := 6, ground := Go.Ground.chain }, { on := 3, ground := Go.Ground.guard }], guard := some (3, true) }) (v := undef) rfl (by kernel_rfl) (by kernel_rfl) (by kernel_rfl) (fun _ _ _ h => h) (Or.inr ⟨by rfl, rfl⟩) hHeld ?_
  simp only [Act.put, List.setIfInBounds_toArray]
  refine wpAnyH_take (i := 10) (oi := { dst := some 13, op := Go.Op.call { callee := Go.Callee.value (Go.Operand.func 20), args := #[Go.Operand.tmp 12], argTypes := #[29] }, type := 46, pos := "bytes.go:59", after := #[{ on := 9, ground := Go.Ground.data }, { on := 9, ground := Go.Ground.chain }, { on := 3, ground := Go.Ground.guard }], guard := some (3, true) }) (v := undef) rfl (by kernel_rfl) (by kernel_rfl) (by kernel_rfl) (fun _ _ _ h => h) (Or.inr ⟨by rfl, rfl⟩) hHeld ?_
  simp only [Act.put, List.setIfInBounds_toArray]
  refine wpAnyH_take (i := 11) (oi := { dst := some 14, op := Go.Op.binOp Go.BinOp.eql 46 (Go.Operand.tmp 9) (Go.Operand.tmp 13) 46, type := 4, pos := "bytes.go:59", after := #[{ on := 6, ground := Go.Ground.data }, { on := 10, ground := Go.Ground.data }, { on := 3, ground := Go.Ground.guard }], guard := some (3, true) }) (v := undef) rfl (by kernel_rfl) (by kernel_rfl) (by kernel_rfl) (fun _ _ _ h => h) (Or.inr ⟨by rfl, rfl⟩) hHeld ?_
  simp only [Act.put, List.setIfInBounds_toArray]
  refine wpAnyH_take (i := 12) (oi := { dst := some 15, op := Go.Op.pick (Go.Operand.tmp 6) (Go.Operand.tmp 14) (Go.Operand.const (Go.Value.bool false)), type := 4, pos := "bytes.go:59", after := #[{ on := 3, ground := Go.Ground.data }, { on := 11, ground := Go.Ground.data }], guard := none }) (v := .bool false) rfl (by kernel_rfl) (by kernel_rfl) (by kernel_rfl) (fun _ _ _ h => h) (Or.inl ⟨by rfl, ?_⟩) hHeld ?_
  · intro w hSw; go_simp
  simp only [Act.put, List.setIfInBounds_toArray]
  refine wpAnyH_take (i := 13) (oi := { dst := some 2, op := Go.Op.assign (Go.Operand.tmp 15), type := 4, pos := "bytes.go:59", after := #[{ on := 12, ground := Go.Ground.data }, { on := 10, ground := Go.Ground.chain }, { on := 0, ground := Go.Ground.phase }, { on := 1, ground := Go.Ground.phase }, { on := 2, ground := Go.Ground.phase }, { on := 3, ground := Go.Ground.phase }, { on := 4, ground := Go.Ground.phase }, { on := 5, ground := Go.Ground.phase }, { on := 6, ground := Go.Ground.phase }, { on := 7, ground := Go.Ground.phase }, { on := 8, ground := Go.Ground.phase }, { on := 9, ground := Go.Ground.phase }, { on := 10, ground := Go.Ground.phase }, { on := 11, ground := Go.Ground.phase }, { on := 12, ground := Go.Ground.phase }], guard := none }) (v := .bool false) rfl (by kernel_rfl) (by kernel_rfl) (by kernel_rfl) (fun _ _ _ h => h) (Or.inl ⟨by rfl, ?_⟩) hHeld ?_
  · intro w hSw; go_simp
  simp only [Act.put, List.setIfInBounds_toArray]
  refine wpAnyH_done (by kernel_rfl) ?_ _
  simp only [List.getElem_toArray, List.getElem_cons_succ, List.getElem_cons_zero, List.setIfInBounds_toArray, List.set_cons_succ, List.set_cons_zero]
  have HT6 : Hid (Touch (fun _ => False) w _) := boxes1_touch hHeld
  clear hHeld
  go_wp2_with fail
  go_ret
  exact ⟨rfl, HT6.out⟩
theorem w_any (v : V) (hs : v.s.size ≤ 9223372036854775807) (w : World) (hU : TabsU w) : Calls Tryd.prog 26 #[v.val] w fun e w' => e = .returned (.bool (isWr v)) ∧ Touch (fun _ => False) w w' := by
  by_cases h : refCheck v = 0
  · exact w_yes v hs h w hU
  · exact w_no v hs h w hU

/-- readParts on any bytes. -/
theorem parts_full (p g : Nat) (bs : List UInt8) (w : World) (h : Rd w p g bs 0) :
    Calls Tryd.prog 25 #[.pointer (some ⟨p, 0, none⟩)] w fun e w' => e = .returned (partsOf bs).2.1.val ∧ Rd w' p g (partsOf bs).2.2 (partsOf bs).1 ∧ Touch (· = p) w w' := by
  obtain ⟨k, hk, ek, eo⟩ := rdByte_form bs 0
  unfold partsOf
  rw [ek]
  split
  · rename_i h1
    obtain ⟨n, hn, en, eo2⟩ := rdByte_form (rdByte bs 0).2.2 (rdByte bs 0).1
    rw [en]
    rw [h1] at eo
    exact pf_bool p g bs _ _ _ _ n hn w h eo2 eo
  split
  · rename_i _ h1
    obtain ⟨n, hn0, hn1, en, eo2⟩ := rdInt_form (rdByte bs 0).2.2 (rdByte bs 0).1
    rw [en]
    rw [h1] at eo
    exact pf_int p g bs _ _ _ _ n w h eo2 eo
  split
  · rename_i _ _ h1
    obtain ⟨n, hn, en, eo2⟩ := rdFixed_form (rdByte bs 0).2.2 (rdByte bs 0).1
    rw [en]
    rw [h1] at eo
    exact pf_float p g bs _ _ _ _ n w h eo2 eo
  split
  · rename_i _ _ _ h1
    obtain ⟨s, hs, en, eo2⟩ := rdText_form (rdByte bs 0).2.2 (rdByte bs 0).1
    rw [en]
    rw [h1] at eo
    exact pf_text p g bs _ _ _ _ s w h eo2 eo
  · rename_i h1 h2 h3 h4
    exact pf_other p g bs _ _ k hk (by rw [beq_eq_false_iff_ne]; omega) (by rw [beq_eq_false_iff_ne]; omega) (by rw [beq_eq_false_iff_ne]; omega) (by rw [beq_eq_false_iff_ne]; omega) w h eo
end Go.Proofs.YtkiicdleoniioaaDoor
