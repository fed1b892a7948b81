/- quirelaw8.known. -/
import Derived.Test.YtphcnjbiojdalaaGreatDoorPart19
namespace Go.Proofs.YtphcnjbiojdalaaGreatDoor
open Go.RowKit Go.Maps
set_option linter.unusedVariables false
set_option linter.unusedSimpArgs false
set_option maxRecDepth 100000

abbrev kO : O := ⟨1, 5, 1, 0, 0, 0, 0, 0, ⟨#[97, 98, 99]⟩, 0, 0, 0, ⟨#[]⟩, ⟨#[]⟩, 0, 0, 0, 0, false, 0, 0, false⟩
abbrev cO : O := ⟨1, 6, 1, 0, 1, 5, 0, 0, ⟨#[98, 99]⟩, 0, 0, 0, ⟨#[]⟩, ⟨#[]⟩, 0, 0, 0, 0, false, 0, 0, false⟩
abbrev aO : O := ⟨1, 5, 1, 0, 0, 0, 0, 0, ⟨#[97]⟩, 0, 0, 0, ⟨#[]⟩, ⟨#[]⟩, 0, 0, 0, 0, false, 0, 0, false⟩
abbrev nO : O := ⟨0, 0, 0, 0, 0, 0, 0, 0, ⟨#[]⟩, 0, 0, 0, ⟨#[]⟩, ⟨#[]⟩, 0, 0, 0, 0, false, 0, 0, false⟩
theorem run_build2 (x y : O) (W : World) : (Instr.buildSlice 45 2 #[(0, x.val), (1, y.val)]).run Tryz.prog W = .ok (.slice (some ⟨W.heap.size, 0, none⟩) 2 2) (W.alloc (.cells (cellsP [x, y]).toArray 31)) := by kernel_rfl
theorem SlP.lit (W : World) (l : List O) (hl : l.length ≤ 1073741824) : SlP (W.alloc (.cells (cellsP l).toArray 31)) (.slice (some ⟨W.heap.size, 0, none⟩) l.length l.length) l := by
  refine ⟨_, _, rfl, (fun h => by cases h), Nat.le_refl _, by omega, .inr ⟨W.heap.size, 0, rfl, fun j u hu => ?_⟩⟩
  rw [Nat.zero_add, cell_of_block (heap_alloc_new W _)]
  simpa using hu
theorem text_kO : rsO kO = [97, 98, 99] := by kernel_rfl
theorem text_cO : rsO cO = [98, 99] := by kernel_rfl
theorem text_aO : rsO aO = [97] := by kernel_rfl
theorem len_kO : lenO kO = 3 := by kernel_rfl
theorem len_cO : lenO cO = 2 := by kernel_rfl
theorem len_aO : lenO aO = 1 := by kernel_rfl
theorem textO_aO : TextO aO := ⟨rfl, by kernel_rfl, by kernel_rfl, by rw [len_aO]; omega, by rw [len_aO]; omega, by decide, by rw [len_aO]; decide⟩
theorem textO_cO : TextO cO := ⟨rfl, by kernel_rfl, by kernel_rfl, by rw [len_cO]; omega, by rw [len_cO]; omega, by decide, by rw [len_cO]; decide⟩
theorem join_known (W : World) (hU : TabsU W) : Calls Tryz.prog 23 #[.slice (some ⟨W.heap.size, 0, none⟩) 2 2] (W.alloc (.cells (cellsP [cO, aO]).toArray 31)) fun e w' => ∃ b o cap, e = .returned (.slice (some ⟨b, o, none⟩) 1 cap) ∧ Touch (fun _ => False) W w' ∧ w'.cell? ⟨b, o + 8, none⟩ = some (.string ⟨#[97, 98, 99]⟩) := by
  have t : Touch (fun _ => False) W (W.alloc (.cells (cellsP [cO, aO]).toArray 31)) := (Touch.refl _ _).alloc _
  have hf : [cO, aO].filter checkB = [cO, aO] := by
    have h1 : checkB cO = true := by kernel_rfl
    have h2 : checkB aO = true := by kernel_rfl
    rw [List.filter_cons_of_pos h1, List.filter_cons_of_pos h2, List.filter_nil]
  have hR : ([aO, cO].flatMap rsO) = [97, 98, 99] := by
    simp only [List.flatMap_cons, List.flatMap_nil, text_aO, text_cO]
    rfl
  have hc : Chain aO (lenO aO) [cO] := by
    rw [len_aO]
    refine ⟨?_, textO_cO, trivial⟩
    rw [text_cO]
    kernel_rfl
  refine (join_any [cO, aO] aO [cO] 0 _ _ (hU.keep t) (SlP.lit W [cO, aO] (by simp)) (by simp) ?_ ?_ textO_aO hc ?_ (by omega)).mono ?_
  · intro x hx
    simp only [List.mem_cons, List.not_mem_nil, or_false] at hx
    rcases hx with rfl | rfl
    · exact ⟨by decide, by decide, by decide, by decide⟩
    · exact ⟨by decide, by decide, by decide, by decide⟩
  · rw [hf]
    exact List.Perm.swap cO aO []
  · rw [hR]
    simp
  · rintro e w' ⟨v', rfl, hN⟩
    have hch : chunks (0 + 1) aO ([aO, cO].flatMap rsO) = [kO] := by
      rw [hR, chunks_small aO (by simp)]
      kernel_rfl
    rw [hch] at hN
    have htt := t.trans hN.touch
    obtain ⟨b, o, cp, e2, _, _, hrow⟩ := hN.sl.row (by simp)
    subst e2
    refine ⟨b, o, cp, rfl, htt, ?_⟩
    have := hrow 0 (by simp) 8 (.string ⟨#[97, 98, 99]⟩) rfl
    simpa using this
set_option maxHeartbeats 8000000 in
theorem known_any (w : World) (hU : TabsU w) : Calls Tryz.prog 9 #[] w fun e w' => e = .returned (.bool true) ∧ Touch (fun _ => False) w w' := by
  have HC1 : Hid (∀ W, Touch (fun _ => False) w W → Calls Tryz.prog 14 #[kO.val, .int .i64 1, .int .i64 3] W fun e w' => e = .returned (.tuple #[cO.val, .bool true]) ∧ Touch (fun _ => False) W w') := fun W t => by
    have h1 : cutRes kO 1 3 = cO := by kernel_rfl
    have h2 : cutOk kO 1 3 = true := by kernel_rfl
    have := ops_cut kO 1 3 (by decide) W (hU.keep t)
    rw [h1, h2] at this
    exact this
  have HC2 : Hid (∀ W, Touch (fun _ => False) w W → Calls Tryz.prog 14 #[kO.val, .int .i64 0, .int .i64 1] W fun e w' => e = .returned (.tuple #[aO.val, .bool true]) ∧ Touch (fun _ => False) W w') := fun W t => by
    have h1 : cutRes kO 0 1 = aO := by kernel_rfl
    have h2 : cutOk kO 0 1 = true := by kernel_rfl
    have := ops_cut kO 0 1 (by decide) W (hU.keep t)
    rw [h1, h2] at this
    exact this
  have HC3 : Hid (∀ W, Touch (fun _ => False) w W → Calls Tryz.prog 14 #[kO.val, .int .i64 2, .int .i64 2] W fun e w' => e = .returned (.tuple #[nO.val, .bool false]) ∧ Touch (fun _ => False) W w') := fun W t => by
    have h1 : cutRes kO 2 2 = nO := by kernel_rfl
    have h2 : cutOk kO 2 2 = false := by kernel_rfl
    have := ops_cut kO 2 2 (by decide) W (hU.keep t)
    rw [h1, h2] at this
    exact this
  have HJ : Hid (∀ W, Touch (fun _ => False) w W → Calls Tryz.prog 23 #[.slice (some ⟨W.heap.size, 0, none⟩) 2 2] (W.alloc (.cells (cellsP [cO, aO]).toArray 31)) fun e w' => ∃ b o cap, e = .returned (.slice (some ⟨b, o, none⟩) 1 cap) ∧ Touch (fun _ => False) W w' ∧ w'.cell? ⟨b, o + 8, none⟩ = some (.string ⟨#[97, 98, 99]⟩)) := fun W t => join_known W (hU.keep t)
  have HK1 : Hid (∀ W, Touch (fun _ => False) w W → Calls Tryz.prog 11 #[kO.val] W fun e w' => e = .returned (.int .i64 0) ∧ Touch (fun _ => False) W w') := fun W t => by
    have h1 : checkB kO = true := by kernel_rfl
    have := ops_check kO ⟨by decide, by decide, by decide, by decide⟩ W (hU.keep t)
    rw [h1] at this
    exact this
  have HK2 : Hid (∀ W, Touch (fun _ => False) w W → Calls Tryz.prog 11 #[nO.val] W fun e w' => e = .returned (.int .i64 120) ∧ Touch (fun _ => False) W w') := fun W t => by
    have h1 : checkB nO = false := by kernel_rfl
    have := ops_check nO ⟨by decide, by decide, by decide, by decide⟩ W (hU.keep t)
    rw [h1] at this
    exact this
  have HL : Hid (∀ W, Touch (fun _ => False) w W → Calls Tryz.prog 17 #[kO.val] W fun e w' => e = .returned (.int .i64 3) ∧ Touch (fun _ => False) W w') := fun W t => by
    have := ops_len kO (by decide) W (hU.keep t)
    rw [len_kO] at this
    exact this
  have HR : Hid (∀ W, Touch (fun _ => False) w W → Calls Tryz.prog 18 #[kO.val] W fun e w' => e = .returned (.agg #[.int .u64 1, .int .u64 5, .int .u64 8]) ∧ Touch (fun _ => False) W w') := fun W t => by
    have h1 : endO kO = 8 := by kernel_rfl
    have := ops_range kO (by decide) W (hU.keep t)
    rw [rangeV, h1] at this
    exact this
  have HF1 : Hid (∀ W, Touch (fun _ => False) w W → Calls Tryz.prog 21 #[aO.val, cO.val] W fun e w' => e = .returned (.bool true) ∧ Touch (fun _ => False) W w') := fun W t => by
    have h1 : goesB aO cO = true := by kernel_rfl
    have := ops_fits aO cO (by decide) W (hU.keep t)
    rw [h1] at this
    exact this
  have HF2 : Hid (∀ W, Touch (fun _ => False) w W → Calls Tryz.prog 21 #[cO.val, aO.val] W fun e w' => e = .returned (.bool false) ∧ Touch (fun _ => False) W w') := fun W t => by
    have h1 : goesB cO aO = false := by kernel_rfl
    have := ops_fits cO aO (by decide) W (hU.keep t)
    rw [h1] at this
    exact this
  have hbs : ∀ (x y : O) (W : World), (Instr.buildSlice 45 2 #[(0, x.val), (1, y.val)]).run Tryz.prog W = .ok (.slice (some ⟨W.heap.size, 0, none⟩) 2 2) (W.alloc (.cells (cellsP [x, y]).toArray 31)) := run_build2
  clear hU
  go_enter Tryz.func9, Tryz.ntmps9
  go_upto_region 1 with fail
  refine wp_region_lit ?_
  refine wpList_plain rfl fun K hK => ?_
  go_simp
  refine hK _ _ ?_
  clear hK K
  refine wpList_plain rfl fun K hK => ?_
  go_simp
  refine hK _ _ ?_
  clear hK K
  refine wpList_plain rfl fun K hK => ?_
  go_simp
  refine hK _ _ ?_
  clear hK K
  have hz : OpAt w.heap.size zeroO (w.alloc (.cells #[.int .u64 0, .int .u64 0, .int .i64 0, .int .u64 0, .int .u64 0, .int .u64 0, .int .u64 0, .int .u64 0, .string ⟨#[]⟩, .int .i64 0, .int .i64 0, .float .f64 0, .string ⟨#[]⟩, .string ⟨#[]⟩, .int .u64 0, .int .u64 0, .int .u64 0, .int .u64 0, .bool false, .int .u64 0, .int .u64 0, .bool false] 31)) := heap_alloc_new _ _
  refine wpList_store_mid rfl 31 (.tmp 1) (.tmp 10) rfl w.heap.size 0 kO.vals rfl rfl (hz.there 0 22 (by decide)) (by kernel_rfl) (by kernel_rfl) ?_
  simp only [Act.put]
  obtain ⟨W1, hW⟩ : ∃ W, Hid (W = (w.alloc (.cells #[.int .u64 0, .int .u64 0, .int .i64 0, .int .u64 0, .int .u64 0, .int .u64 0, .int .u64 0, .int .u64 0, .string ⟨#[]⟩, .int .i64 0, .int .i64 0, .float .f64 0, .string ⟨#[]⟩, .string ⟨#[]⟩, .int .u64 0, .int .u64 0, .int .u64 0, .int .u64 0, .bool false, .int .u64 0, .int .u64 0, .bool false] 31)).setCells w.heap.size 0 kO.vals.toList) := ⟨_, Eq.refl _⟩
  have h9 : Touch (fun _ => False) w W1 ∧ OpAt w.heap.size kO W1 := by rw [hW.out]; exact ⟨((Touch.refl _ _).alloc _).stored (Nat.le_refl _) 0 _, hz.stored 0 kO.vals.toList (by kernel_rfl)⟩
  have HW1 : Hid (Touch (fun _ => False) w W1 ∧ OpAt w.heap.size kO W1 ∧ True) := ⟨h9.1, h9.2, trivial⟩
  rw [← hW.out]
  clear hW hz h9
  go_upto_region 2 with fail
  refine wp_region_lit ?_
  refine wpList_load_mid rfl 31 (.tmp 1) rfl w.heap.size 0 rfl kO.vals.toList _ (rangeAt_of HW1.out.2.1) Tryz.underlying31 rfl (by kernel_rfl) ?_
  simp only [Act.put, List.setIfInBounds_toArray, List.set_cons_succ, List.set_cons_zero]
  refine wpList_plain rfl fun K hK => ?_
  go_simp
  refine (HC1.out _ HW1.out.1).mono ?_
  rintro e W2 ⟨rfl, t⟩
  have HW2 : Hid (Touch (fun _ => False) w W2 ∧ OpAt w.heap.size kO W2 ∧ True) := ⟨HW1.out.1.trans t, HW1.out.2.1.keep t, trivial⟩
  clear t HW1
  refine hK _ _ ?_
  clear hK K
  refine wpList_plain rfl fun K hK => ?_
  go_simp
  refine hK _ _ ?_
  clear hK K
  refine wpList_plain rfl fun K hK => ?_
  go_simp
  refine hK _ _ ?_
  clear hK K
  refine wpList_plain rfl fun K hK => ?_
  go_simp
  refine hK _ _ ?_
  clear hK K
  refine wpList_plain rfl fun K hK => ?_
  go_simp
  refine hK _ _ ?_
  clear hK K
  have hz : OpAt W2.heap.size zeroO (W2.alloc (.cells #[.int .u64 0, .int .u64 0, .int .i64 0, .int .u64 0, .int .u64 0, .int .u64 0, .int .u64 0, .int .u64 0, .string ⟨#[]⟩, .int .i64 0, .int .i64 0, .float .f64 0, .string ⟨#[]⟩, .string ⟨#[]⟩, .int .u64 0, .int .u64 0, .int .u64 0, .int .u64 0, .bool false, .int .u64 0, .int .u64 0, .bool false] 31)) := heap_alloc_new _ _
  refine wpList_store_mid rfl 31 (.tmp 2) (.tmp 14) rfl W2.heap.size 0 cO.vals rfl rfl (hz.there 0 22 (by decide)) (by kernel_rfl) (by kernel_rfl) ?_
  simp only [Act.put]
  obtain ⟨W3, hW⟩ : ∃ W, Hid (W = (W2.alloc (.cells #[.int .u64 0, .int .u64 0, .int .i64 0, .int .u64 0, .int .u64 0, .int .u64 0, .int .u64 0, .int .u64 0, .string ⟨#[]⟩, .int .i64 0, .int .i64 0, .float .f64 0, .string ⟨#[]⟩, .string ⟨#[]⟩, .int .u64 0, .int .u64 0, .int .u64 0, .int .u64 0, .bool false, .int .u64 0, .int .u64 0, .bool false] 31)).setCells W2.heap.size 0 cO.vals.toList) := ⟨_, Eq.refl _⟩
  have h9 : Touch (fun _ => False) W2 W3 ∧ OpAt W2.heap.size cO W3 := by rw [hW.out]; exact ⟨((Touch.refl _ _).alloc _).stored (Nat.le_refl _) 0 _, hz.stored 0 cO.vals.toList (by kernel_rfl)⟩
  have HW3 : Hid (Touch (fun _ => False) w W3 ∧ OpAt w.heap.size kO W3 ∧ OpAt W2.heap.size cO W3 ∧ True) := ⟨HW2.out.1.trans h9.1, HW2.out.2.1.keep h9.1, h9.2, trivial⟩
  rw [← hW.out]
  clear hW hz h9 HW2
  refine wpList_plain rfl fun K hK => ?_
  go_simp
  refine hK _ _ ?_
  clear hK K
  go_upto_region 3 with fail
  refine wp_region_lit ?_
  refine wpList_load_mid rfl 31 (.tmp 1) rfl w.heap.size 0 rfl kO.vals.toList _ (rangeAt_of HW3.out.2.1) Tryz.underlying31 rfl (by kernel_rfl) ?_
  simp only [Act.put, List.setIfInBounds_toArray, List.set_cons_succ, List.set_cons_zero]
  refine wpList_plain rfl fun K hK => ?_
  go_simp
  refine (HC2.out _ HW3.out.1).mono ?_
  rintro e W4 ⟨rfl, t⟩
  have HW4 : Hid (Touch (fun _ => False) w W4 ∧ OpAt w.heap.size kO W4 ∧ OpAt W2.heap.size cO W4 ∧ True) := ⟨HW3.out.1.trans t, HW3.out.2.1.keep t, HW3.out.2.2.1.keep t, trivial⟩
  clear t HW3
  refine hK _ _ ?_
  clear hK K
  refine wpList_plain rfl fun K hK => ?_
  go_simp
  refine hK _ _ ?_
  clear hK K
  refine wpList_plain rfl fun K hK => ?_
  go_simp
  refine hK _ _ ?_
  clear hK K
  refine wpList_plain rfl fun K hK => ?_
  go_simp
  refine hK _ _ ?_
  clear hK K
  refine wpList_plain rfl fun K hK => ?_
  go_simp
  refine hK _ _ ?_
  clear hK K
  have hz : OpAt W4.heap.size zeroO (W4.alloc (.cells #[.int .u64 0, .int .u64 0, .int .i64 0, .int .u64 0, .int .u64 0, .int .u64 0, .int .u64 0, .int .u64 0, .string ⟨#[]⟩, .int .i64 0, .int .i64 0, .float .f64 0, .string ⟨#[]⟩, .string ⟨#[]⟩, .int .u64 0, .int .u64 0, .int .u64 0, .int .u64 0, .bool false, .int .u64 0, .int .u64 0, .bool false] 31)) := heap_alloc_new _ _
  refine wpList_store_mid rfl 31 (.tmp 4) (.tmp 19) rfl W4.heap.size 0 aO.vals rfl rfl (hz.there 0 22 (by decide)) (by kernel_rfl) (by kernel_rfl) ?_
  simp only [Act.put]
  obtain ⟨W5, hW⟩ : ∃ W, Hid (W = (W4.alloc (.cells #[.int .u64 0, .int .u64 0, .int .i64 0, .int .u64 0, .int .u64 0, .int .u64 0, .int .u64 0, .int .u64 0, .string ⟨#[]⟩, .int .i64 0, .int .i64 0, .float .f64 0, .string ⟨#[]⟩, .string ⟨#[]⟩, .int .u64 0, .int .u64 0, .int .u64 0, .int .u64 0, .bool false, .int .u64 0, .int .u64 0, .bool false] 31)).setCells W4.heap.size 0 aO.vals.toList) := ⟨_, Eq.refl _⟩
  have h9 : Touch (fun _ => False) W4 W5 ∧ OpAt W4.heap.size aO W5 := by rw [hW.out]; exact ⟨((Touch.refl _ _).alloc _).stored (Nat.le_refl _) 0 _, hz.stored 0 aO.vals.toList (by kernel_rfl)⟩
  have HW5 : Hid (Touch (fun _ => False) w W5 ∧ OpAt w.heap.size kO W5 ∧ OpAt W2.heap.size cO W5 ∧ OpAt W4.heap.size aO W5 ∧ True) := ⟨HW4.out.1.trans h9.1, HW4.out.2.1.keep h9.1, HW4.out.2.2.1.keep h9.1, h9.2, trivial⟩
  rw [← hW.out]
  clear hW hz h9 HW4
  refine wpList_plain rfl fun K hK => ?_
  go_simp
  refine hK _ _ ?_
  clear hK K
  go_upto_region 4 with fail
  refine wp_region_lit ?_
  refine wpList_load_mid rfl 31 (.tmp 2) rfl W2.heap.size 0 rfl cO.vals.toList _ (rangeAt_of HW5.out.2.2.1) Tryz.underlying31 rfl (by kernel_rfl) ?_
  simp only [Act.put, List.setIfInBounds_toArray, List.set_cons_succ, List.set_cons_zero]
  refine wpList_load_mid rfl 31 (.tmp 4) rfl W4.heap.size 0 rfl aO.vals.toList _ (rangeAt_of HW5.out.2.2.2.1) Tryz.underlying31 rfl (by kernel_rfl) ?_
  simp only [Act.put, List.setIfInBounds_toArray, List.set_cons_succ, List.set_cons_zero]
  refine wpList_plain rfl fun K hK => ?_
  go_simp
  refine hK _ _ ?_
  clear hK K
  refine wpList_plain rfl fun K hK => ?_
  go_simp
  refine (HJ.out _ HW5.out.1).mono ?_
  rintro e W6 ⟨jb, jo, jc, rfl, t, qj⟩
  have HW6 : Hid (Touch (fun _ => False) w W6 ∧ OpAt w.heap.size kO W6 ∧ OpAt W2.heap.size cO W6 ∧ OpAt W4.heap.size aO W6 ∧ True) := ⟨HW5.out.1.trans t, HW5.out.2.1.keep t, HW5.out.2.2.1.keep t, HW5.out.2.2.2.1.keep t, trivial⟩
  have HQ6 : Hid (W6.cell? ⟨jb, jo + 8, none⟩ = some (.string ⟨#[97, 98, 99]⟩)) := qj
  clear t HW5 qj
  refine hK _ _ ?_
  clear hK K
  refine wpList_plain rfl fun K hK => ?_
  go_simp
  refine hK _ _ ?_
  clear hK K
  go_upto_region 5 with fail
  refine wp_region_lit ?_
  refine wpList_load_mid rfl 31 (.tmp 1) rfl w.heap.size 0 rfl kO.vals.toList _ (rangeAt_of HW6.out.2.1) Tryz.underlying31 rfl (by kernel_rfl) ?_
  simp only [Act.put, List.setIfInBounds_toArray, List.set_cons_succ, List.set_cons_zero]
  refine wpList_plain rfl fun K hK => ?_
  go_simp
  refine (HC3.out _ HW6.out.1).mono ?_
  rintro e W7 ⟨rfl, t⟩
  have HW7 : Hid (Touch (fun _ => False) w W7 ∧ OpAt w.heap.size kO W7 ∧ OpAt W2.heap.size cO W7 ∧ OpAt W4.heap.size aO W7 ∧ True) := ⟨HW6.out.1.trans t, HW6.out.2.1.keep t, HW6.out.2.2.1.keep t, HW6.out.2.2.2.1.keep t, trivial⟩
  have HQ7 : Hid (W7.cell? ⟨jb, jo + 8, none⟩ = some (.string ⟨#[97, 98, 99]⟩)) := by
    show _ = _
    rw [World.cell?_of_block (t.block _ (World.block_lt_of_cell? _ _ HQ6.out) id)]; exact HQ6.out
  clear HQ6
  clear t HW6
  refine hK _ _ ?_
  clear hK K
  refine wpList_plain rfl fun K hK => ?_
  go_simp
  refine hK _ _ ?_
  clear hK K
  refine wpList_plain rfl fun K hK => ?_
  go_simp
  refine hK _ _ ?_
  clear hK K
  refine wpList_plain rfl fun K hK => ?_
  go_simp
  refine hK _ _ ?_
  clear hK K
  refine wpList_plain rfl fun K hK => ?_
  go_simp
  refine hK _ _ ?_
  clear hK K
  have hz : OpAt W7.heap.size zeroO (W7.alloc (.cells #[.int .u64 0, .int .u64 0, .int .i64 0, .int .u64 0, .int .u64 0, .int .u64 0, .int .u64 0, .int .u64 0, .string ⟨#[]⟩, .int .i64 0, .int .i64 0, .float .f64 0, .string ⟨#[]⟩, .string ⟨#[]⟩, .int .u64 0, .int .u64 0, .int .u64 0, .int .u64 0, .bool false, .int .u64 0, .int .u64 0, .bool false] 31)) := heap_alloc_new _ _
  refine wpList_store_mid rfl 31 (.tmp 7) (.tmp 28) rfl W7.heap.size 0 nO.vals rfl rfl (hz.there 0 22 (by decide)) (by kernel_rfl) (by kernel_rfl) ?_
  simp only [Act.put]
  obtain ⟨W8, hW⟩ : ∃ W, Hid (W = (W7.alloc (.cells #[.int .u64 0, .int .u64 0, .int .i64 0, .int .u64 0, .int .u64 0, .int .u64 0, .int .u64 0, .int .u64 0, .string ⟨#[]⟩, .int .i64 0, .int .i64 0, .float .f64 0, .string ⟨#[]⟩, .string ⟨#[]⟩, .int .u64 0, .int .u64 0, .int .u64 0, .int .u64 0, .bool false, .int .u64 0, .int .u64 0, .bool false] 31)).setCells W7.heap.size 0 nO.vals.toList) := ⟨_, Eq.refl _⟩
  have h9 : Touch (fun _ => False) W7 W8 ∧ OpAt W7.heap.size nO W8 := by rw [hW.out]; exact ⟨((Touch.refl _ _).alloc _).stored (Nat.le_refl _) 0 _, hz.stored 0 nO.vals.toList (by kernel_rfl)⟩
  have HW8 : Hid (Touch (fun _ => False) w W8 ∧ OpAt w.heap.size kO W8 ∧ OpAt W2.heap.size cO W8 ∧ OpAt W4.heap.size aO W8 ∧ OpAt W7.heap.size nO W8 ∧ True) := ⟨HW7.out.1.trans h9.1, HW7.out.2.1.keep h9.1, HW7.out.2.2.1.keep h9.1, HW7.out.2.2.2.1.keep h9.1, h9.2, trivial⟩
  rw [← hW.out]
  have HQ8 : Hid (W8.cell? ⟨jb, jo + 8, none⟩ = some (.string ⟨#[97, 98, 99]⟩)) := by
    show _ = _
    rw [World.cell?_of_block (h9.1.block _ (World.block_lt_of_cell? _ _ HQ7.out) id)]; exact HQ7.out
  clear hW hz h9 HW7 HQ7
  refine wpList_plain rfl fun K hK => ?_
  go_simp
  refine hK _ _ ?_
  clear hK K
  go_upto_region 6 with fail
  refine wp_region_lit ?_
  refine wpList_load_mid rfl 31 (.tmp 1) rfl w.heap.size 0 rfl kO.vals.toList _ (rangeAt_of HW8.out.2.1) Tryz.underlying31 rfl (by kernel_rfl) ?_
  simp only [Act.put, List.setIfInBounds_toArray, List.set_cons_succ, List.set_cons_zero]
  refine wpList_plain rfl fun K hK => ?_
  go_simp
  refine (HK1.out _ HW8.out.1).mono ?_
  rintro e W9 ⟨rfl, t⟩
  have HW9 : Hid (Touch (fun _ => False) w W9 ∧ OpAt w.heap.size kO W9 ∧ OpAt W2.heap.size cO W9 ∧ OpAt W4.heap.size aO W9 ∧ OpAt W7.heap.size nO W9 ∧ True) := ⟨HW8.out.1.trans t, HW8.out.2.1.keep t, HW8.out.2.2.1.keep t, HW8.out.2.2.2.1.keep t, HW8.out.2.2.2.2.1.keep t, trivial⟩
  have HQ9 : Hid (W9.cell? ⟨jb, jo + 8, none⟩ = some (.string ⟨#[97, 98, 99]⟩)) := by
    show _ = _
    rw [World.cell?_of_block (t.block _ (World.block_lt_of_cell? _ _ HQ8.out) id)]; exact HQ8.out
  clear HQ8
  clear t HW8
  refine hK _ _ ?_
  clear hK K
  refine wpList_plain rfl fun K hK => ?_
  go_simp
  refine hK _ _ ?_
  clear hK K
  refine wpList_plain rfl fun K hK => ?_
  go_simp
  refine hK _ _ ?_
  clear hK K
  refine wpList_step fun K hK => ?_
  rw [if_pos (by kernel_rfl)]
  go_simp
  refine hK _ _ ?_
  clear hK K
  refine wpList_plain rfl fun K hK => ?_
  go_simp
  refine hK _ _ ?_
  clear hK K
  refine wpList_plain rfl fun K hK => ?_
  go_simp
  refine hK _ _ ?_
  clear hK K
  have q1 : W9.cell? ⟨W2.heap.size, 1, none⟩ = some (.int .u64 6) := HW9.out.2.2.1.q1
  refine wpList_step fun K hK => ?_
  rw [if_pos (by kernel_rfl)]
  go_simp
  refine hK _ _ ?_
  clear hK K
  refine wpList_step fun K hK => ?_
  rw [if_pos (by kernel_rfl)]
  go_simp
  refine hK _ _ ?_
  clear hK K
  refine wpList_step fun K hK => ?_
  rw [if_pos (by kernel_rfl)]
  go_simp
  refine hK _ _ ?_
  clear hK K
  refine wpList_step fun K hK => ?_
  rw [if_pos (by kernel_rfl)]
  go_simp
  refine hK _ _ ?_
  clear hK K
  clear q1
  refine wpList_plain rfl fun K hK => ?_
  go_simp
  refine hK _ _ ?_
  clear hK K
  refine wpList_plain rfl fun K hK => ?_
  go_simp
  refine hK _ _ ?_
  clear hK K
  have q8 : W9.cell? ⟨W2.heap.size, 8, none⟩ = some (.string ⟨#[98, 99]⟩) := HW9.out.2.2.1.q8
  refine wpList_step fun K hK => ?_
  rw [if_pos (by kernel_rfl)]
  go_simp
  refine hK _ _ ?_
  clear hK K
  refine wpList_step fun K hK => ?_
  rw [if_pos (by kernel_rfl)]
  go_simp
  refine hK _ _ ?_
  clear hK K
  refine wpList_step fun K hK => ?_
  rw [if_pos (by kernel_rfl)]
  go_simp
  refine hK _ _ ?_
  clear hK K
  clear q8
  refine wpList_plain rfl fun K hK => ?_
  go_simp
  refine hK _ _ ?_
  clear hK K
  refine wpList_plain rfl fun K hK => ?_
  go_simp
  refine hK _ _ ?_
  clear hK K
  have q4 : W9.cell? ⟨W2.heap.size, 4, none⟩ = some (.int .u64 1) := HW9.out.2.2.1.q4
  have q5 : W9.cell? ⟨W2.heap.size, 5, none⟩ = some (.int .u64 5) := HW9.out.2.2.1.q5
  refine wpList_step fun K hK => ?_
  rw [if_pos (by kernel_rfl)]
  go_simp
  refine hK _ _ ?_
  clear hK K
  refine wpList_step fun K hK => ?_
  rw [if_pos (by kernel_rfl)]
  go_simp
  refine hK _ _ ?_
  clear hK K
  refine wpList_step fun K hK => ?_
  rw [if_pos (by kernel_rfl)]
  go_simp
  refine hK _ _ ?_
  clear hK K
  refine wpList_step fun K hK => ?_
  rw [if_pos (by kernel_rfl)]
  go_simp
  refine hK _ _ ?_
  clear hK K
  clear q4 q5
  refine wpList_plain rfl fun K hK => ?_
  go_simp
  refine hK _ _ ?_
  clear hK K
  refine wpList_plain rfl fun K hK => ?_
  go_simp
  refine hK _ _ ?_
  clear hK K
  refine wpList_step fun K hK => ?_
  rw [if_pos (by kernel_rfl)]
  go_simp
  refine hK _ _ ?_
  clear hK K
  refine wpList_step fun K hK => ?_
  rw [if_pos (by kernel_rfl)]
  go_simp
  refine hK _ _ ?_
  clear hK K
  refine wpList_plain rfl fun K hK => ?_
  go_simp
  refine hK _ _ ?_
  clear hK K
  refine wpList_plain rfl fun K hK => ?_
  go_simp
  refine hK _ _ ?_
  clear hK K
  refine wpList_step fun K hK => ?_
  rw [if_pos (by kernel_rfl)]
  go_simp
  refine hK _ _ ?_
  clear hK K
  refine wpList_step fun K hK => ?_
  rw [if_pos (by kernel_rfl)]
  go_simp
  refine hK _ _ ?_
  clear hK K
  refine wpList_step fun K hK => ?_
  rw [if_pos (by kernel_rfl)]
  go_simp
  refine hK _ _ ?_
  clear hK K
  refine wpList_plain rfl fun K hK => ?_
  go_simp
  refine hK _ _ ?_
  clear hK K
  refine wpList_plain rfl fun K hK => ?_
  go_simp
  refine hK _ _ ?_
  clear hK K
  have qj := HQ9.out
  refine wpList_step fun K hK => ?_
  rw [if_pos (by kernel_rfl)]
  go_simp
  refine hK _ _ ?_
  clear hK K
  refine wpList_step fun K hK => ?_
  rw [if_pos (by kernel_rfl)]
  go_simp
  refine hK _ _ ?_
  clear hK K
  refine wpList_step fun K hK => ?_
  rw [if_pos (by kernel_rfl)]
  go_simp
  refine hK _ _ ?_
  clear hK K
  refine wpList_step fun K hK => ?_
  rw [if_pos (by kernel_rfl)]
  go_simp
  refine hK _ _ ?_
  clear hK K
  refine wpList_step fun K hK => ?_
  rw [if_pos (by kernel_rfl)]
  go_simp
  refine hK _ _ ?_
  clear hK K
  clear qj HQ9
  refine wpList_plain rfl fun K hK => ?_
  go_simp
  refine hK _ _ ?_
  clear hK K
  refine wpList_plain rfl fun K hK => ?_
  go_simp
  refine hK _ _ ?_
  clear hK K
  refine wpList_step fun K hK => ?_
  rw [if_pos (by kernel_rfl)]
  refine wp_load_mid 31 (.tmp 1) rfl w.heap.size 0 rfl kO.vals.toList _ (rangeAt_of HW9.out.2.1) Tryz.underlying31 rfl (by kernel_rfl) (hK _ _ ?_)
  clear hK K
  simp only [Act.put, List.setIfInBounds_toArray, List.set_cons_succ, List.set_cons_zero]
  refine wpList_step fun K hK => ?_
  rw [if_pos (by kernel_rfl)]
  go_simp
  refine (HL.out _ HW9.out.1).mono ?_
  rintro e W10 ⟨rfl, t⟩
  have HW10 : Hid (Touch (fun _ => False) w W10 ∧ OpAt w.heap.size kO W10 ∧ OpAt W2.heap.size cO W10 ∧ OpAt W4.heap.size aO W10 ∧ OpAt W7.heap.size nO W10 ∧ True) := ⟨HW9.out.1.trans t, HW9.out.2.1.keep t, HW9.out.2.2.1.keep t, HW9.out.2.2.2.1.keep t, HW9.out.2.2.2.2.1.keep t, trivial⟩
  clear t HW9
  refine hK _ _ ?_
  clear hK K
  refine wpList_step fun K hK => ?_
  rw [if_pos (by kernel_rfl)]
  go_simp
  refine hK _ _ ?_
  clear hK K
  refine wpList_plain rfl fun K hK => ?_
  go_simp
  refine hK _ _ ?_
  clear hK K
  refine wpList_plain rfl fun K hK => ?_
  go_simp
  refine hK _ _ ?_
  clear hK K
  refine wpList_step fun K hK => ?_
  rw [if_pos (by kernel_rfl)]
  go_simp
  refine hK _ _ ?_
  clear hK K
  refine wpList_step fun K hK => ?_
  rw [if_pos (by kernel_rfl)]
  go_simp
  refine (HK2.out _ HW10.out.1).mono ?_
  rintro e W11 ⟨rfl, t⟩
  have HW11 : Hid (Touch (fun _ => False) w W11 ∧ OpAt w.heap.size kO W11 ∧ OpAt W2.heap.size cO W11 ∧ OpAt W4.heap.size aO W11 ∧ OpAt W7.heap.size nO W11 ∧ True) := ⟨HW10.out.1.trans t, HW10.out.2.1.keep t, HW10.out.2.2.1.keep t, HW10.out.2.2.2.1.keep t, HW10.out.2.2.2.2.1.keep t, trivial⟩
  clear t HW10
  refine hK _ _ ?_
  clear hK K
  refine wpList_step fun K hK => ?_
  rw [if_pos (by kernel_rfl)]
  go_simp
  refine hK _ _ ?_
  clear hK K
  refine wpList_plain rfl fun K hK => ?_
  go_simp
  refine hK _ _ ?_
  clear hK K
  refine wpList_plain rfl fun K hK => ?_
  go_simp
  refine hK _ _ ?_
  clear hK K
  refine wpList_step fun K hK => ?_
  rw [if_pos (by kernel_rfl)]
  refine wp_load_mid 31 (.tmp 4) rfl W4.heap.size 0 rfl aO.vals.toList _ (rangeAt_of HW11.out.2.2.2.1) Tryz.underlying31 rfl (by kernel_rfl) (hK _ _ ?_)
  clear hK K
  simp only [Act.put, List.setIfInBounds_toArray, List.set_cons_succ, List.set_cons_zero]
  refine wpList_step fun K hK => ?_
  rw [if_pos (by kernel_rfl)]
  refine wp_load_mid 31 (.tmp 2) rfl W2.heap.size 0 rfl cO.vals.toList _ (rangeAt_of HW11.out.2.2.1) Tryz.underlying31 rfl (by kernel_rfl) (hK _ _ ?_)
  clear hK K
  simp only [Act.put, List.setIfInBounds_toArray, List.set_cons_succ, List.set_cons_zero]
  refine wpList_step fun K hK => ?_
  rw [if_pos (by kernel_rfl)]
  go_simp
  refine (HF1.out _ HW11.out.1).mono ?_
  rintro e W12 ⟨rfl, t⟩
  have HW12 : Hid (Touch (fun _ => False) w W12 ∧ OpAt w.heap.size kO W12 ∧ OpAt W2.heap.size cO W12 ∧ OpAt W4.heap.size aO W12 ∧ OpAt W7.heap.size nO W12 ∧ True) := ⟨HW11.out.1.trans t, HW11.out.2.1.keep t, HW11.out.2.2.1.keep t, HW11.out.2.2.2.1.keep t, HW11.out.2.2.2.2.1.keep t, trivial⟩
  clear t HW11
  refine hK _ _ ?_
  clear hK K
  refine wpList_plain rfl fun K hK => ?_
  go_simp
  refine hK _ _ ?_
  clear hK K
  refine wpList_plain rfl fun K hK => ?_
  go_simp
  refine hK _ _ ?_
  clear hK K
  refine wpList_step fun K hK => ?_
  rw [if_pos (by kernel_rfl)]
  refine wp_load_mid 31 (.tmp 2) rfl W2.heap.size 0 rfl cO.vals.toList _ (rangeAt_of HW12.out.2.2.1) Tryz.underlying31 rfl (by kernel_rfl) (hK _ _ ?_)
  clear hK K
  simp only [Act.put, List.setIfInBounds_toArray, List.set_cons_succ, List.set_cons_zero]
  refine wpList_step fun K hK => ?_
  rw [if_pos (by kernel_rfl)]
  refine wp_load_mid 31 (.tmp 4) rfl W4.heap.size 0 rfl aO.vals.toList _ (rangeAt_of HW12.out.2.2.2.1) Tryz.underlying31 rfl (by kernel_rfl) (hK _ _ ?_)
  clear hK K
  simp only [Act.put, List.setIfInBounds_toArray, List.set_cons_succ, List.set_cons_zero]
  refine wpList_step fun K hK => ?_
  rw [if_pos (by kernel_rfl)]
  go_simp
  refine (HF2.out _ HW12.out.1).mono ?_
  rintro e W13 ⟨rfl, t⟩
  have HW13 : Hid (Touch (fun _ => False) w W13 ∧ OpAt w.heap.size kO W13 ∧ OpAt W2.heap.size cO W13 ∧ OpAt W4.heap.size aO W13 ∧ OpAt W7.heap.size nO W13 ∧ True) := ⟨HW12.out.1.trans t, HW12.out.2.1.keep t, HW12.out.2.2.1.keep t, HW12.out.2.2.2.1.keep t, HW12.out.2.2.2.2.1.keep t, trivial⟩
  clear t HW12
  refine hK _ _ ?_
  clear hK K
  refine wpList_step fun K hK => ?_
  rw [if_pos (by kernel_rfl)]
  go_simp
  refine hK _ _ ?_
  clear hK K
  refine wpList_plain rfl fun K hK => ?_
  go_simp
  refine hK _ _ ?_
  clear hK K
  refine wpList_plain rfl fun K hK => ?_
  go_simp
  refine hK _ _ ?_
  clear hK K
  refine wpList_step fun K hK => ?_
  rw [if_pos (by kernel_rfl)]
  refine wp_load_mid 31 (.tmp 1) rfl w.heap.size 0 rfl kO.vals.toList _ (rangeAt_of HW13.out.2.1) Tryz.underlying31 rfl (by kernel_rfl) (hK _ _ ?_)
  clear hK K
  simp only [Act.put, List.setIfInBounds_toArray, List.set_cons_succ, List.set_cons_zero]
  refine wpList_step fun K hK => ?_
  rw [if_pos (by kernel_rfl)]
  go_simp
  refine (HR.out _ HW13.out.1).mono ?_
  rintro e W14 ⟨rfl, t⟩
  have HW14 : Hid (Touch (fun _ => False) w W14 ∧ OpAt w.heap.size kO W14 ∧ OpAt W2.heap.size cO W14 ∧ OpAt W4.heap.size aO W14 ∧ OpAt W7.heap.size nO W14 ∧ True) := ⟨HW13.out.1.trans t, HW13.out.2.1.keep t, HW13.out.2.2.1.keep t, HW13.out.2.2.2.1.keep t, HW13.out.2.2.2.2.1.keep t, trivial⟩
  clear t HW13
  refine hK _ _ ?_
  clear hK K
  refine wpList_step fun K hK => ?_
  rw [if_pos (by kernel_rfl)]
  go_simp
  refine hK _ _ ?_
  clear hK K
  refine wpList_step fun K hK => ?_
  rw [if_pos (by kernel_rfl)]
  go_simp
  refine hK _ _ ?_
  clear hK K
  refine wpList_plain rfl fun K hK => ?_
  go_simp
  refine hK _ _ ?_
  clear hK K
  refine wpList_plain rfl fun K hK => ?_
  go_simp
  refine hK _ _ ?_
  clear hK K
  go_wp2_with fail
  go_ret
  exact ⟨rfl, HW14.out.1⟩
end Go.Proofs.YtphcnjbiojdalaaGreatDoor
