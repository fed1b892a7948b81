/- slices.CompactFunc of operations of which no two neighbours are alike: as it is. -/
import Derived.Test.YtmknkecaeagmbaaGreatDoorPart11
import Derived.Deep.LoopGhost
import Derived.Deep.RegionHeld3
import Derived.Deep.MidRow
namespace Go.Proofs.YtmknkecaeagmbaaGreatDoor
open Go.RowKit
set_option linter.unusedVariables false
set_option linter.unusedSimpArgs false
set_option maxRecDepth 100000

theorem wrap_i64_small (n : Int) (h0 : -9223372036854775808 ≤ n) (h1 : n < 9223372036854775808) : IntKind.i64.wrap n = n := by rw [IntKind.wrap_i64]; omega
theorem Touch.drew_left {S : Nat → Prop} {a b : World} (h : Touch S a.drew b) : Touch S a b := ⟨h.os, h.tape, h.output, h.size, h.block⟩
set_option maxHeartbeats 4000000 in
theorem compact_any (l : List O) (hne : l ≠ []) (v : Value) (w : World) (hsl : SlP w v l) (hl : l.length ≤ 1073741824) (hno : ∀ j (h : j + 1 < l.length), ((l[j + 1].c == l[j].c) && (l[j + 1].k == l[j].k)) = false) :
    Calls Tryz.prog 75 #[v, .func (.func 76) #[] #[]] w fun e w' => e = .returned v ∧ Touch (fun _ => False) w w' := by
  obtain ⟨b, o, cap, rfl, hcap, hcm, hrow⟩ := hsl.row hne
  have hblt : b < w.heap.size := by
    have h0 := List.length_pos_iff.2 hne
    have := hrow 0 h0 0 (.int .u64 l[0].c) rfl
    exact World.block_lt_of_cell? _ _ this
  have HRW : Hid (∀ (W : World), Touch (fun _ => False) w W → ∀ j (h : j < l.length), W.rangeAt b (o + j * 22) l[j].vals.toList) := fun W t j h i u hu => by
    rw [World.cell?_of_block (t.block _ hblt id)]; exact hrow j h i u hu
  have HNO : Hid (∀ j (h : j + 1 < l.length), ((l[j + 1].c == l[j].c) && (l[j + 1].k == l[j].k)) = false) := hno
  have hl0 := List.length_pos_iff.2 hne
  clear hrow hcap hcm hblt hno hsl hne
  by_cases h2 : l.length < 2
  · have h2' : (l.length : Int) < 2 := by omega
    clear HRW HNO
    generalize l.length = n at *
    go_enter Tryz.func75, Tryz.ntmps75
    go_wp2_with fail
    go_ret
    exact ⟨rfl, Touch.refl _ _⟩
  · have h2' : ¬ (l.length : Int) < 2 := by omega
    go_enter Tryz.func75, Tryz.ntmps75
    go_wp2_with fail
    go_loopg [5] (l.length - 1) (fun gk s5 wx => ∃ m : Nat, m + 1 + gk = l.length ∧ s5 = .int .i64 ((m : Int) + 1) ∧ Hid (Touch (fun _ => False) w wx))
    case atStart => exact ⟨0, by omega, rfl, Touch.refl _ _⟩
    case round =>
      obtain ⟨m, hmg, rfl, HI⟩ := hrel
      obtain ⟨wx, hwx⟩ : ∃ wx, wx = wr := ⟨_, rfl⟩
      subst hwx
      by_cases hml : m + 1 < l.length
      · have i1 : (m : Int) + 1 < (l.length : Int) := by omega
        have i2 : (0 : Int) ≤ (m : Int) + 1 := by omega
        have i3 : (m : Int) < (l.length : Int) := by omega
        have i4 : (0 : Int) ≤ (m : Int) := by omega
        have i5 : ((m : Int) + 1).toNat = m + 1 := by omega
        have i6 : IntKind.i64.wrap ((m : Int) + 1 - 1) = (m : Int) := by rw [Int.add_sub_cancel]; exact wrap_i64_small _ (by omega) (by omega)
        have i7 : IntKind.i64.wrap (m : Int) = (m : Int) := wrap_i64_small _ (by omega) (by omega)
        have HR : Hid (∀ W, Touch (fun _ => False) w W → W.rangeAt b (o + m * 22) l[m].vals.toList ∧ W.rangeAt b (o + (m + 1) * 22) l[m + 1].vals.toList) := fun W t => ⟨HRW.out W t m (by omega), HRW.out W t (m + 1) hml⟩
        have HE : Hid (∀ W, Calls Tryz.prog 76 #[l[m + 1].val, l[m].val] W fun e w' => e = .returned (.bool false) ∧ Touch (fun _ => False) W w') := fun W => (sameId_any l[m + 1] l[m] W).mono (by rintro e w2 ⟨rfl, t⟩; exact ⟨by rw [HNO.out m hml], t⟩)
        have eg : ∀ args w, (callFunc 76 args).run Tryz.prog w = .ok (.enter 76 args) w := enters_of Tryz.func76 (by kernel_rfl) rfl
        generalize l[m] = x at *
        generalize l[m + 1] = y at *
        have hS0 : wx.drew.rangeAt b (o + m * 22) x.vals.toList ∧ wx.drew.rangeAt b (o + (m + 1) * 22) y.vals.toList := HR.out wx.drew HI.out.drew
        go_upto_region 6 with fail
        refine wp_region_held_drew (S := fun W => W.rangeAt b (o + m * 22) x.vals.toList ∧ W.rangeAt b (o + (m + 1) * 22) y.vals.toList) (by kernel_rfl) hS0 (fun hHeld => ?_)
        refine wpAnyH_take (i := 0) (oi := { dst := some 18, op := Go.Op.move (Go.Operand.tmp 1), type := 39, pos := "slices.go:401", after := #[], guard := none }) (v := .func (.func 76) #[] #[]) rfl (by kernel_rfl) (by kernel_rfl) (by kernel_rfl) (fun _ _ _ h => h) (Or.inl ⟨by rfl, ?_⟩) hHeld ?_
        · intro w hSw; clear hSw; go_simp
        simp only [Act.put, List.setIfInBounds_toArray]
        refine wpAnyH_take (i := 1) (oi := { dst := some 19, op := Go.Op.move (Go.Operand.tmp 0), type := 45, pos := "slices.go:401", after := #[], guard := none }) (v := .slice (some ⟨b, o, none⟩) l.length cap) rfl (by kernel_rfl) (by kernel_rfl) (by kernel_rfl) (fun _ _ _ h => h) (Or.inl ⟨by rfl, ?_⟩) hHeld ?_
        · intro w hSw; clear hSw; go_simp
        simp only [Act.put, List.setIfInBounds_toArray]
        refine wpAnyH_take (i := 2) (oi := { dst := some 20, op := Go.Op.move (Go.Operand.tmp 5), type := 3, pos := "slices.go:401", after := #[], guard := none }) (v := .int .i64 ((m : Int) + 1)) rfl (by kernel_rfl) (by kernel_rfl) (by kernel_rfl) (fun _ _ _ h => h) (Or.inl ⟨by rfl, ?_⟩) hHeld ?_
        · intro w hSw; clear hSw; go_simp
        simp only [Act.put, List.setIfInBounds_toArray]
        refine wpAnyH_take (i := 3) (oi := { dst := some 21, op := Go.Op.indexAddr 45 (Go.Operand.tmp 19) (Go.Operand.tmp 20), type := 0, pos := "slices.go:401", after := #[{ on := 1, ground := Go.Ground.data }, { on := 2, ground := Go.Ground.data }], guard := none }) (v := .pointer (some ⟨b, o + (m + 1) * 22, none⟩)) rfl (by kernel_rfl) (by kernel_rfl) (by kernel_rfl) (fun _ _ _ h => h) (Or.inl ⟨by rfl, ?_⟩) hHeld ?_
        · intro w hSw; clear hSw; go_simp
        simp only [Act.put, List.setIfInBounds_toArray]
        refine wpAnyH_take (i := 4) (oi := { dst := some 22, op := Go.Op.load 31 (Go.Operand.tmp 21), type := 31, pos := "slices.go:401", after := #[{ on := 3, ground := Go.Ground.data }], guard := none }) (v := y.val) rfl (by kernel_rfl) (by kernel_rfl) (by kernel_rfl) (fun _ _ _ h => h) (yieldsIf_load_mid (by rfl) 31 (.tmp 21) rfl b (o + (m + 1) * 22) rfl y.vals.toList _ (fun w hw => hw.2) Tryz.underlying31 rfl (by kernel_rfl)) hHeld ?_
        simp only [Act.put, List.setIfInBounds_toArray]
        refine wpAnyH_take (i := 5) (oi := { dst := some 23, op := Go.Op.move (Go.Operand.tmp 0), type := 45, pos := "slices.go:401", after := #[], guard := none }) (v := .slice (some ⟨b, o, none⟩) l.length cap) rfl (by kernel_rfl) (by kernel_rfl) (by kernel_rfl) (fun _ _ _ h => h) (Or.inl ⟨by rfl, ?_⟩) hHeld ?_
        · intro w hSw; clear hSw; go_simp
        simp only [Act.put, List.setIfInBounds_toArray]
        refine wpAnyH_take (i := 6) (oi := { dst := some 24, op := Go.Op.move (Go.Operand.tmp 5), type := 3, pos := "slices.go:401", after := #[], guard := none }) (v := .int .i64 ((m : Int) + 1)) rfl (by kernel_rfl) (by kernel_rfl) (by kernel_rfl) (fun _ _ _ h => h) (Or.inl ⟨by rfl, ?_⟩) hHeld ?_
        · intro w hSw; clear hSw; go_simp
        simp only [Act.put, List.setIfInBounds_toArray]
        refine wpAnyH_take (i := 7) (oi := { dst := some 25, op := Go.Op.binOp Go.BinOp.sub 3 (Go.Operand.tmp 24) (Go.Operand.const (Go.Value.int Go.IntKind.i64 1)) 3, type := 3, pos := "slices.go:401", after := #[{ on := 6, ground := Go.Ground.data }], guard := none }) (v := .int .i64 (m : Int)) rfl (by kernel_rfl) (by kernel_rfl) (by kernel_rfl) (fun _ _ _ h => h) (Or.inl ⟨by rfl, ?_⟩) hHeld ?_
        · intro w hSw; clear hSw; go_simp
        simp only [Act.put, List.setIfInBounds_toArray]
        refine wpAnyH_take (i := 8) (oi := { dst := some 26, op := Go.Op.indexAddr 45 (Go.Operand.tmp 23) (Go.Operand.tmp 25), type := 0, pos := "slices.go:401", after := #[{ on := 5, ground := Go.Ground.data }, { on := 7, ground := Go.Ground.data }], guard := none }) (v := .pointer (some ⟨b, o + m * 22, none⟩)) rfl (by kernel_rfl) (by kernel_rfl) (by kernel_rfl) (fun _ _ _ h => h) (Or.inl ⟨by rfl, ?_⟩) hHeld ?_
        · intro w hSw; clear hSw; go_simp
        simp only [Act.put, List.setIfInBounds_toArray]
        refine wpAnyH_take (i := 9) (oi := { dst := some 27, op := Go.Op.load 31 (Go.Operand.tmp 26), type := 31, pos := "slices.go:401", after := #[{ on := 8, ground := Go.Ground.data }], guard := none }) (v := x.val) rfl (by kernel_rfl) (by kernel_rfl) (by kernel_rfl) (fun _ _ _ h => h) (yieldsIf_load_mid (by rfl) 31 (.tmp 26) rfl b (o + m * 22) rfl x.vals.toList _ (fun w hw => hw.1) Tryz.underlying31 rfl (by kernel_rfl)) hHeld ?_
        simp only [Act.put, List.setIfInBounds_toArray]
        refine wpAnyH_ready (rs := [10]) (by kernel_rfl) (by simp) ?_
        refine AllReadyH.cons (o := { dst := some 28, op := Go.Op.call { callee := Go.Callee.value (Go.Operand.tmp 18), args := #[Go.Operand.tmp 22, Go.Operand.tmp 27], argTypes := #[31, 31] }, type := 4, pos := "slices.go:401", after := #[{ on := 0, ground := Go.Ground.data }, { on := 4, ground := Go.Ground.data }, { on := 9, ground := Go.Ground.data }], guard := none }) rfl (fun K hK => ?_) AllReadyH.nil
        go_simp
        refine (HE.out _).mono ?_
        rintro e w2 ⟨rfl, hT⟩
        have HT2 : Hid (Touch (fun _ => False) w w2) := HI.out.trans (Touch.drew_left hT)
        have hS2 := HR.out w2 HT2.out
        clear hT
        refine hK.out _ _ hS2 (fun hHeld => ?_)
        clear hK K hS2
        refine wpAnyH_done (by kernel_rfl) ?_ _
        try simp only [List.getElem_toArray, List.getElem_cons_succ, List.getElem_cons_zero, List.setIfInBounds_toArray, List.set_cons_succ, List.set_cons_zero]
        clear hHeld hS0
        go_wp2_with fail
        go_roundg (l.length - (m + 1 + 1))
        case measure => omega
        case rel => exact ⟨m + 1, by omega, by push_cast; rfl, HT2.out⟩
      · obtain hml2 : m + 1 = l.length := by omega
        have i1 : ¬ (m : Int) + 1 < (l.length : Int) := by omega
        clear hml2
        go_wp2_with fail
        go_ret
        exact ⟨rfl, HI.out⟩
end Go.Proofs.YtmknkecaeagmbaaGreatDoor
