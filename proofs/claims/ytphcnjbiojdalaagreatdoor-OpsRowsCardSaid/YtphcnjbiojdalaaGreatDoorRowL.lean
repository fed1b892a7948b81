/- ops.rowLen of texts that each go on where the one ahead ends. -/
import Derived.Test.YtphcnjbiojdalaaGreatDoorPart17
namespace Go.Proofs.YtphcnjbiojdalaaGreatDoor
open Go.RowKit
set_option linter.unusedVariables false
set_option linter.unusedSimpArgs false
set_option maxRecDepth 100000

set_option maxHeartbeats 4000000 in
theorem rowLen_any (l : List O) (hne : l ≠ []) (v : Value) (w : World) (hU : TabsU w) (hsl : SlP w v l) (hl : l.length ≤ 1073741824) (htx : ∀ x ∈ l, x.tx.size ≤ 4611686018427387904) (hgo : ∀ j (h : j + 1 < l.length), goesB l[j] l[j + 1] = true) :
    Calls Tryz.prog 51 #[v] w fun e w' => e = .returned (.int .i64 (l.length : Int)) ∧ Touch (fun _ => False) w w' := by
  obtain ⟨b, o, cap, rfl, hcap, hcm, hrow⟩ := hsl.row hne
  have hblt : b < w.heap.size := by
    have h0 := List.length_pos_iff.2 hne
    have := hrow 0 h0 0 (.int .u64 l[0].c) rfl
    exact World.block_lt_of_cell? _ _ this
  have HRW : Hid (∀ (W : World), Touch (fun _ => False) w W → ∀ j (h : j < l.length), W.rangeAt b (o + j * 22) l[j].vals.toList) := fun W t j h i u hu => by
    rw [World.cell?_of_block (t.block _ hblt id)]; exact hrow j h i u hu
  have HGO : Hid (∀ j (h : j + 1 < l.length) W, Touch (fun _ => False) w W → Calls Tryz.prog 21 #[l[j].val, l[j + 1].val] W fun e w' => e = .returned (.bool true) ∧ Touch (fun _ => False) W w') := fun j h W t => (ops_fits l[j] l[j + 1] (htx _ (List.getElem_mem _)) W (hU.keep t)).mono (by rintro e w2 ⟨rfl, t⟩; exact ⟨by rw [hgo j h], t⟩)
  have hl0 := List.length_pos_iff.2 hne
  clear hrow hcap hcm hblt hgo hsl hne htx hU
  go_enter Tryz.func51, Tryz.ntmps51
  go_wp2_with fail
  go_loopg [3] (l.length - 1) (fun gk s3 wx => ∃ m : Nat, m + 1 + gk = l.length ∧ s3 = .int .i64 ((m : Int) + 1) ∧ Hid (Touch (fun _ => False) w wx))
  case atStart => exact ⟨0, by omega, rfl, Touch.refl _ _⟩
  case round =>
    obtain ⟨m, hmg, rfl, HI⟩ := hrel
    obtain ⟨wx, hwx⟩ : ∃ wx, wx = wr := ⟨_, rfl⟩
    subst hwx
    by_cases hml : m + 1 < l.length
    · have i1 : (m : Int) + 1 < (l.length : Int) := by omega
      have i2 : (0 : Int) ≤ (m : Int) + 1 := by omega
      have i3 : (m : Int) < (l.length : Int) := by omega
      have i4 : (0 : Int) ≤ (m : Int) := by omega
      have i5 : ((m : Int) + 1).toNat = m + 1 := by omega
      have i6 : IntKind.i64.wrap ((m : Int) + 1 - 1) = (m : Int) := by rw [Int.add_sub_cancel]; exact wrap_i64_small _ (by omega) (by omega)
      have i7 : IntKind.i64.wrap (m : Int) = (m : Int) := wrap_i64_small _ (by omega) (by omega)
      have HR : Hid (∀ W, Touch (fun _ => False) w W → W.rangeAt b (o + m * 22) l[m].vals.toList ∧ W.rangeAt b (o + (m + 1) * 22) l[m + 1].vals.toList) := fun W t => ⟨HRW.out W t m (by omega), HRW.out W t (m + 1) hml⟩
      have HE : Hid (∀ W, Touch (fun _ => False) w W → Calls Tryz.prog 21 #[l[m].val, l[m + 1].val] W fun e w' => e = .returned (.bool true) ∧ Touch (fun _ => False) W w') := fun W t => HGO.out m hml W t
      generalize l[m] = x at *
      generalize l[m + 1] = y at *
      have hS0 : wx.drew.rangeAt b (o + m * 22) x.vals.toList ∧ wx.drew.rangeAt b (o + (m + 1) * 22) y.vals.toList := HR.out wx.drew HI.out.drew
      go_upto_region 2 with fail
      refine wp_region_held_drew (S := fun W => W.rangeAt b (o + m * 22) x.vals.toList ∧ W.rangeAt b (o + (m + 1) * 22) y.vals.toList) (by kernel_rfl) hS0 (fun hHeld => ?_)
      refine wpAnyH_take (i := 0) (oi := { dst := some 4, op := Go.Op.move (Go.Operand.tmp 3), type := 3, pos := "join.go:64", after := #[], guard := none }) (v := .int .i64 ((m : Int) + 1)) rfl (by kernel_rfl) (by kernel_rfl) (by kernel_rfl) (fun _ _ _ h => h) (Or.inl ⟨by rfl, ?_⟩) hHeld ?_
      · intro w hSw; clear hSw; go_simp
      simp only [Act.put, List.setIfInBounds_toArray]
      refine wpAnyH_take (i := 1) (oi := { dst := some 5, op := Go.Op.move (Go.Operand.tmp 0), type := 45, pos := "join.go:64", after := #[], guard := none }) (v := .slice (some ⟨b, o, none⟩) l.length cap) rfl (by kernel_rfl) (by kernel_rfl) (by kernel_rfl) (fun _ _ _ h => h) (Or.inl ⟨by rfl, ?_⟩) hHeld ?_
      · intro w hSw; clear hSw; go_simp
      simp only [Act.put, List.setIfInBounds_toArray]
      refine wpAnyH_take (i := 2) (oi := { dst := some 6, op := Go.Op.call { callee := Go.Callee.builtin Go.Builtin.len, args := #[Go.Operand.tmp 5], argTypes := #[45] }, type := 3, pos := "join.go:64", after := #[{ on := 1, ground := Go.Ground.data }], guard := none }) (v := .int .i64 (l.length : Int)) rfl (by kernel_rfl) (by kernel_rfl) (by kernel_rfl) (fun _ _ _ h => h) (Or.inl ⟨by rfl, ?_⟩) hHeld ?_
      · intro w hSw; clear hSw; go_simp
      simp only [Act.put, List.setIfInBounds_toArray]
      refine wpAnyH_take (i := 3) (oi := { dst := some 7, op := Go.Op.binOp Go.BinOp.lss 3 (Go.Operand.tmp 4) (Go.Operand.tmp 6) 3, type := 4, pos := "join.go:64", after := #[{ on := 0, ground := Go.Ground.data }, { on := 2, ground := Go.Ground.data }], guard := none }) (v := .bool true) rfl (by kernel_rfl) (by kernel_rfl) (by kernel_rfl) (fun _ _ _ h => h) (Or.inl ⟨by rfl, ?_⟩) hHeld ?_
      · intro w hSw; clear hSw; go_simp
      simp only [Act.put, List.setIfInBounds_toArray]
      refine wpAnyH_take (i := 4) (oi := { dst := some 8, op := Go.Op.move (Go.Operand.tmp 7), type := 4, pos := "join.go:64", after := #[{ on := 3, ground := Go.Ground.data }], guard := none }) (v := .bool true) rfl (by kernel_rfl) (by kernel_rfl) (by kernel_rfl) (fun _ _ _ h => h) (Or.inl ⟨by rfl, ?_⟩) hHeld ?_
      · intro w hSw; clear hSw; go_simp
      simp only [Act.put, List.setIfInBounds_toArray]
      refine wpAnyH_take (i := 5) (oi := { dst := some 9, op := Go.Op.move (Go.Operand.tmp 0), type := 45, pos := "join.go:64", after := #[{ on := 4, ground := Go.Ground.guard }], guard := some (4, true) }) (v := .slice (some ⟨b, o, none⟩) l.length cap) rfl (by kernel_rfl) (by kernel_rfl) (by kernel_rfl) (fun _ _ _ h => h) (Or.inl ⟨by rfl, ?_⟩) hHeld ?_
      · intro w hSw; clear hSw; go_simp
      simp only [Act.put, List.setIfInBounds_toArray]
      refine wpAnyH_take (i := 6) (oi := { dst := some 10, op := Go.Op.move (Go.Operand.tmp 3), type := 3, pos := "join.go:64", after := #[{ on := 4, ground := Go.Ground.guard }], guard := some (4, true) }) (v := .int .i64 ((m : Int) + 1)) rfl (by kernel_rfl) (by kernel_rfl) (by kernel_rfl) (fun _ _ _ h => h) (Or.inl ⟨by rfl, ?_⟩) hHeld ?_
      · intro w hSw; clear hSw; go_simp
      simp only [Act.put, List.setIfInBounds_toArray]
      refine wpAnyH_take (i := 7) (oi := { dst := some 11, op := Go.Op.binOp Go.BinOp.sub 3 (Go.Operand.tmp 10) (Go.Operand.const (Go.Value.int Go.IntKind.i64 1)) 3, type := 3, pos := "join.go:64", after := #[{ on := 6, ground := Go.Ground.data }, { on := 4, ground := Go.Ground.guard }], guard := some (4, true) }) (v := .int .i64 (m : Int)) rfl (by kernel_rfl) (by kernel_rfl) (by kernel_rfl) (fun _ _ _ h => h) (Or.inl ⟨by rfl, ?_⟩) hHeld ?_
      · intro w hSw; clear hSw; go_simp
      simp only [Act.put, List.setIfInBounds_toArray]
      refine wpAnyH_take (i := 8) (oi := { dst := some 12, op := Go.Op.indexAddr 45 (Go.Operand.tmp 9) (Go.Operand.tmp 11), type := 0, pos := "join.go:64", after := #[{ on := 5, ground := Go.Ground.data }, { on := 7, ground := Go.Ground.data }, { on := 4, ground := Go.Ground.guard }], guard := some (4, true) }) (v := .pointer (some ⟨b, o + m * 22, none⟩)) rfl (by kernel_rfl) (by kernel_rfl) (by kernel_rfl) (fun _ _ _ h => h) (Or.inl ⟨by rfl, ?_⟩) hHeld ?_
      · intro w hSw; clear hSw; go_simp
      simp only [Act.put, List.setIfInBounds_toArray]
      refine wpAnyH_take (i := 9) (oi := { dst := some 13, op := Go.Op.load 31 (Go.Operand.tmp 12), type := 31, pos := "join.go:64", after := #[{ on := 8, ground := Go.Ground.data }, { on := 4, ground := Go.Ground.guard }], guard := some (4, true) }) (v := x.val) rfl (by kernel_rfl) (by kernel_rfl) (by kernel_rfl) (fun _ _ _ h => h) (yieldsIf_load_mid (by rfl) 31 (.tmp 12) rfl b (o + m * 22) rfl x.vals.toList _ (fun w hw => hw.1) Tryz.underlying31 rfl (by kernel_rfl)) hHeld ?_
      simp only [Act.put, List.setIfInBounds_toArray]
      refine wpAnyH_take (i := 10) (oi := { dst := some 14, op := Go.Op.move (Go.Operand.tmp 0), type := 45, pos := "join.go:64", after := #[{ on := 4, ground := Go.Ground.guard }], guard := some (4, true) }) (v := .slice (some ⟨b, o, none⟩) l.length cap) rfl (by kernel_rfl) (by kernel_rfl) (by kernel_rfl) (fun _ _ _ h => h) (Or.inl ⟨by rfl, ?_⟩) hHeld ?_
      · intro w hSw; clear hSw; go_simp
      simp only [Act.put, List.setIfInBounds_toArray]
      refine wpAnyH_take (i := 11) (oi := { dst := some 15, op := Go.Op.move (Go.Operand.tmp 3), type := 3, pos := "join.go:64", after := #[{ on := 4, ground := Go.Ground.guard }], guard := some (4, true) }) (v := .int .i64 ((m : Int) + 1)) rfl (by kernel_rfl) (by kernel_rfl) (by kernel_rfl) (fun _ _ _ h => h) (Or.inl ⟨by rfl, ?_⟩) hHeld ?_
      · intro w hSw; clear hSw; go_simp
      simp only [Act.put, List.setIfInBounds_toArray]
      refine wpAnyH_take (i := 12) (oi := { dst := some 16, op := Go.Op.indexAddr 45 (Go.Operand.tmp 14) (Go.Operand.tmp 15), type := 0, pos := "join.go:64", after := #[{ on := 10, ground := Go.Ground.data }, { on := 11, ground := Go.Ground.data }, { on := 4, ground := Go.Ground.guard }], guard := some (4, true) }) (v := .pointer (some ⟨b, o + (m + 1) * 22, none⟩)) rfl (by kernel_rfl) (by kernel_rfl) (by kernel_rfl) (fun _ _ _ h => h) (Or.inl ⟨by rfl, ?_⟩) hHeld ?_
      · intro w hSw; clear hSw; go_simp
      simp only [Act.put, List.setIfInBounds_toArray]
      refine wpAnyH_take (i := 13) (oi := { dst := some 17, op := Go.Op.load 31 (Go.Operand.tmp 16), type := 31, pos := "join.go:64", after := #[{ on := 12, ground := Go.Ground.data }, { on := 4, ground := Go.Ground.guard }], guard := some (4, true) }) (v := y.val) rfl (by kernel_rfl) (by kernel_rfl) (by kernel_rfl) (fun _ _ _ h => h) (yieldsIf_load_mid (by rfl) 31 (.tmp 16) rfl b (o + (m + 1) * 22) rfl y.vals.toList _ (fun w hw => hw.2) Tryz.underlying31 rfl (by kernel_rfl)) hHeld ?_
      simp only [Act.put, List.setIfInBounds_toArray]
      refine wpAnyH_ready (rs := [14]) (by kernel_rfl) (by simp) ?_
      refine AllReadyH.cons (o := { dst := some 18, op := Go.Op.call { callee := Go.Callee.value (Go.Operand.func 21), args := #[Go.Operand.tmp 13, Go.Operand.tmp 17], argTypes := #[31, 31] }, type := 4, pos := "join.go:64", after := #[{ on := 9, ground := Go.Ground.data }, { on := 13, ground := Go.Ground.data }, { on := 4, ground := Go.Ground.chain }, { on := 4, ground := Go.Ground.guard }], guard := some (4, true) }) rfl (fun K hK => ?_) AllReadyH.nil
      go_simp
      refine (HE.out _ HI.out.drew).mono ?_
      rintro e w2 ⟨rfl, hT⟩
      have HT2 : Hid (Touch (fun _ => False) w w2) := HI.out.trans (Touch.drew_left hT)
      have hS2 := HR.out w2 HT2.out
      clear hT
      refine hK.out _ _ hS2 (fun hHeld => ?_)
      clear hK K hS2
      refine wpAnyH_take (i := 15) (oi := { dst := some 19, op := Go.Op.pick (Go.Operand.tmp 8) (Go.Operand.tmp 18) (Go.Operand.const (Go.Value.bool false)), type := 4, pos := "join.go:64", after := #[{ on := 4, ground := Go.Ground.data }, { on := 14, ground := Go.Ground.data }], guard := none }) (v := .bool true) rfl (by kernel_rfl) (by kernel_rfl) (by kernel_rfl) (fun _ _ _ h => h) (Or.inl ⟨by rfl, ?_⟩) hHeld ?_
      · intro w hSw; clear hSw; go_simp
      simp only [Act.put, List.setIfInBounds_toArray]
      refine wpAnyH_done (by kernel_rfl) ?_ _
      try simp only [List.getElem_toArray, List.getElem_cons_succ, List.getElem_cons_zero, List.setIfInBounds_toArray, List.set_cons_succ, List.set_cons_zero]
      clear hHeld hS0
      go_wp2_with fail
      go_roundg (l.length - (m + 1 + 1))
      case measure => omega
      case rel => exact ⟨m + 1, by omega, by push_cast; rfl, HT2.out⟩
    · have hml2 : m + 1 = l.length := by omega
      have i1 : ¬ (m : Int) + 1 < (l.length : Int) := by omega
      have HQ : Hid ((m : Int) + 1 = (l.length : Int)) := by show (m : Int) + 1 = (l.length : Int); omega
      clear hml2
      go_upto_region 2 with fail
      refine wp_region_held_drew (S := fun W => True) (by kernel_rfl) trivial (fun hHeld => ?_)
      refine wpAnyH_take (i := 0) (oi := { dst := some 4, op := Go.Op.move (Go.Operand.tmp 3), type := 3, pos := "join.go:64", after := #[], guard := none }) (v := .int .i64 ((m : Int) + 1)) rfl (by kernel_rfl) (by kernel_rfl) (by kernel_rfl) (fun _ _ _ h => h) (Or.inl ⟨by rfl, ?_⟩) hHeld ?_
      · intro w hSw; clear hSw; go_simp
      simp only [Act.put, List.setIfInBounds_toArray]
      refine wpAnyH_take (i := 1) (oi := { dst := some 5, op := Go.Op.move (Go.Operand.tmp 0), type := 45, pos := "join.go:64", after := #[], guard := none }) (v := .slice (some ⟨b, o, none⟩) l.length cap) rfl (by kernel_rfl) (by kernel_rfl) (by kernel_rfl) (fun _ _ _ h => h) (Or.inl ⟨by rfl, ?_⟩) hHeld ?_
      · intro w hSw; clear hSw; go_simp
      simp only [Act.put, List.setIfInBounds_toArray]
      refine wpAnyH_take (i := 2) (oi := { dst := some 6, op := Go.Op.call { callee := Go.Callee.builtin Go.Builtin.len, args := #[Go.Operand.tmp 5], argTypes := #[45] }, type := 3, pos := "join.go:64", after := #[{ on := 1, ground := Go.Ground.data }], guard := none }) (v := .int .i64 (l.length : Int)) rfl (by kernel_rfl) (by kernel_rfl) (by kernel_rfl) (fun _ _ _ h => h) (Or.inl ⟨by rfl, ?_⟩) hHeld ?_
      · intro w hSw; clear hSw; go_simp
      simp only [Act.put, List.setIfInBounds_toArray]
      refine wpAnyH_take (i := 3) (oi := { dst := some 7, op := Go.Op.binOp Go.BinOp.lss 3 (Go.Operand.tmp 4) (Go.Operand.tmp 6) 3, type := 4, pos := "join.go:64", after := #[{ on := 0, ground := Go.Ground.data }, { on := 2, ground := Go.Ground.data }], guard := none }) (v := .bool false) rfl (by kernel_rfl) (by kernel_rfl) (by kernel_rfl) (fun _ _ _ h => h) (Or.inl ⟨by rfl, ?_⟩) hHeld ?_
      · intro w hSw; clear hSw; go_simp
      simp only [Act.put, List.setIfInBounds_toArray]
      refine wpAnyH_take (i := 4) (oi := { dst := some 8, op := Go.Op.move (Go.Operand.tmp 7), type := 4, pos := "join.go:64", after := #[{ on := 3, ground := Go.Ground.data }], guard := none }) (v := .bool false) rfl (by kernel_rfl) (by kernel_rfl) (by kernel_rfl) (fun _ _ _ h => h) (Or.inl ⟨by rfl, ?_⟩) hHeld ?_
      · intro w hSw; clear hSw; go_simp
      simp only [Act.put, List.setIfInBounds_toArray]
      refine wpAnyH_take (i := 5) (oi := { dst := some 9, op := Go.Op.move (Go.Operand.tmp 0), type := 45, pos := "join.go:64", after := #[{ on := 4, ground := Go.Ground.guard }], guard := some (4, true) }) (v := undef) rfl (by kernel_rfl) (by kernel_rfl) (by kernel_rfl) (fun _ _ _ h => h) (Or.inr ⟨by rfl, rfl⟩) hHeld ?_
      simp only [Act.put, List.setIfInBounds_toArray]
      refine wpAnyH_take (i := 6) (oi := { dst := some 10, op := Go.Op.move (Go.Operand.tmp 3), type := 3, pos := "join.go:64", after := #[{ on := 4, ground := Go.Ground.guard }], guard := some (4, true) }) (v := undef) rfl (by kernel_rfl) (by kernel_rfl) (by kernel_rfl) (fun _ _ _ h => h) (Or.inr ⟨by rfl, rfl⟩) hHeld ?_
      simp only [Act.put, List.setIfInBounds_toArray]
      refine wpAnyH_take (i := 7) (oi := { dst := some 11, op := Go.Op.binOp Go.BinOp.sub 3 (Go.Operand.tmp 10) (Go.Operand.const (Go.Value.int Go.IntKind.i64 1)) 3, type := 3, pos := "join.go:64", after := #[{ on := 6, ground := Go.Ground.data }, { on := 4, ground := Go.Ground.guard }], guard := some (4, true) }) (v := undef) rfl (by kernel_rfl) (by kernel_rfl) (by kernel_rfl) (fun _ _ _ h => h) (Or.inr ⟨by rfl, rfl⟩) hHeld ?_
      simp only [Act.put, List.setIfInBounds_toArray]
      refine wpAnyH_take (i := 8) (oi := { dst := some 12, op := Go.Op.indexAddr 45 (Go.Operand.tmp 9) (Go.Operand.tmp 11), type := 0, pos := "join.go:64", after := #[{ on := 5, ground := Go.Ground.data }, { on := 7, ground := Go.Ground.data }, { on := 4, ground := Go.Ground.guard }], guard := some (4, true) }) (v := undef) rfl (by kernel_rfl) (by kernel_rfl) (by kernel_rfl) (fun _ _ _ h => h) (Or.inr ⟨by rfl, rfl⟩) hHeld ?_
      simp only [Act.put, List.setIfInBounds_toArray]
      refine wpAnyH_take (i := 9) (oi := { dst := some 13, op := Go.Op.load 31 (Go.Operand.tmp 12), type := 31, pos := "join.go:64", after := #[{ on := 8, ground := Go.Ground.data }, { on := 4, ground := Go.Ground.guard }], guard := some (4, true) }) (v := undef) rfl (by kernel_rfl) (by kernel_rfl) (by kernel_rfl) (fun _ _ _ h => h) (Or.inr ⟨by rfl, rfl⟩) hHeld ?_
      simp only [Act.put, List.setIfInBounds_toArray]
      refine wpAnyH_take (i := 10) (oi := { dst := some 14, op := Go.Op.move (Go.Operand.tmp 0), type := 45, pos := "join.go:64", after := #[{ on := 4, ground := Go.Ground.guard }], guard := some (4, true) }) (v := undef) rfl (by kernel_rfl) (by kernel_rfl) (by kernel_rfl) (fun _ _ _ h => h) (Or.inr ⟨by rfl, rfl⟩) hHeld ?_
      simp only [Act.put, List.setIfInBounds_toArray]
      refine wpAnyH_take (i := 11) (oi := { dst := some 15, op := Go.Op.move (Go.Operand.tmp 3), type := 3, pos := "join.go:64", after := #[{ on := 4, ground := Go.Ground.guard }], guard := some (4, true) }) (v := undef) rfl (by kernel_rfl) (by kernel_rfl) (by kernel_rfl) (fun _ _ _ h => h) (Or.inr ⟨by rfl, rfl⟩) hHeld ?_
      simp only [Act.put, List.setIfInBounds_toArray]
      refine wpAnyH_take (i := 12) (oi := { dst := some 16, op := Go.Op.indexAddr 45 (Go.Operand.tmp 14) (Go.Operand.tmp 15), type := 0, pos := "join.go:64", after := #[{ on := 10, ground := Go.Ground.data }, { on := 11, ground := Go.Ground.data }, { on := 4, ground := Go.Ground.guard }], guard := some (4, true) }) (v := undef) rfl (by kernel_rfl) (by kernel_rfl) (by kernel_rfl) (fun _ _ _ h => h) (Or.inr ⟨by rfl, rfl⟩) hHeld ?_
      simp only [Act.put, List.setIfInBounds_toArray]
      refine wpAnyH_take (i := 13) (oi := { dst := some 17, op := Go.Op.load 31 (Go.Operand.tmp 16), type := 31, pos := "join.go:64", after := #[{ on := 12, ground := Go.Ground.data }, { on := 4, ground := Go.Ground.guard }], guard := some (4, true) }) (v := undef) rfl (by kernel_rfl) (by kernel_rfl) (by kernel_rfl) (fun _ _ _ h => h) (Or.inr ⟨by rfl, rfl⟩) hHeld ?_
      simp only [Act.put, List.setIfInBounds_toArray]
      refine wpAnyH_take (i := 14) (oi := { dst := some 18, op := Go.Op.call { callee := Go.Callee.value (Go.Operand.func 21), args := #[Go.Operand.tmp 13, Go.Operand.tmp 17], argTypes := #[31, 31] }, type := 4, pos := "join.go:64", after := #[{ on := 9, ground := Go.Ground.data }, { on := 13, ground := Go.Ground.data }, { on := 4, ground := Go.Ground.chain }, { on := 4, ground := Go.Ground.guard }], guard := some (4, true) }) (v := undef) rfl (by kernel_rfl) (by kernel_rfl) (by kernel_rfl) (fun _ _ _ h => h) (Or.inr ⟨by rfl, rfl⟩) hHeld ?_
      simp only [Act.put, List.setIfInBounds_toArray]
      refine wpAnyH_take (i := 15) (oi := { dst := some 19, op := Go.Op.pick (Go.Operand.tmp 8) (Go.Operand.tmp 18) (Go.Operand.const (Go.Value.bool false)), type := 4, pos := "join.go:64", after := #[{ on := 4, ground := Go.Ground.data }, { on := 14, ground := Go.Ground.data }], guard := none }) (v := .bool false) rfl (by kernel_rfl) (by kernel_rfl) (by kernel_rfl) (fun _ _ _ h => h) (Or.inl ⟨by rfl, ?_⟩) hHeld ?_
      · intro w hSw; clear hSw; go_simp
      simp only [Act.put, List.setIfInBounds_toArray]
      refine wpAnyH_done (by kernel_rfl) ?_ _
      try simp only [List.getElem_toArray, List.getElem_cons_succ, List.getElem_cons_zero, List.setIfInBounds_toArray, List.set_cons_succ, List.set_cons_zero]
      clear hHeld
      go_wp2_with fail
      go_ret
      exact ⟨by rw [← HQ.out]; rfl, HI.out.drew⟩
end Go.Proofs.YtphcnjbiojdalaaGreatDoor
