/- ops.parts. -/
import Derived.Test.YtphcnjbiojdalaaGreatDoorPart18
import Derived.Test.YtphcnjbiojdalaaGreatDoorJoinM
import Derived.BigQuiet
namespace Go.Proofs.YtphcnjbiojdalaaGreatDoor
open Go.RowKit Go.Maps
set_option linter.unusedVariables false
set_option linter.unusedSimpArgs false
set_option maxRecDepth 100000

theorem take_flat (f : O → List O) (l : List O) (i : Nat) (h : i < l.length) : (l.take (i + 1)).flatMap f = (l.take i).flatMap f ++ f l[i] := by
  rw [List.take_succ_eq_append_getElem h, List.flatMap_append]
  simp
theorem partsL_len (k0 : Int) (l : List O) : (partsL k0 l).length ≤ 2 * l.length := by
  unfold partsL
  induction l with
  | nil => simp
  | cons a l ih =>
    rw [List.flatMap_cons, List.length_append, List.length_cons]
    have : (partsOf k0 a).length ≤ 2 := by
      unfold partsOf
      cases cutOk a (endP k0 a) (lenO a) <;> simp
    omega
theorem ahead_bd (k0 : Int) (x : O) : 0 ≤ aheadO k0 x ∧ aheadO k0 x < 4096 := by unfold aheadO; omega
theorem ahead_rem (k0 : Int) (x : O) : (IntKind.u64.wrap (x.k - k0)).tmod 4096 = aheadO k0 x := by
  unfold aheadO
  rw [Int.tmod_eq_emod_of_nonneg]
  rw [IntKind.wrap_u64]
  omega
set_option maxHeartbeats 8000000 in
theorem parts_any (l : List O) (hne : l ≠ []) (k0 : Int) (hk0 : ∀ h : 0 < l.length, l[0].k = k0) (v : Value) (w : World) (hU : TabsU w) (hsl : SlP w v l) (hl : l.length ≤ 1048576) (hz : Sized l) :
    Calls Tryz.prog 77 #[v] w fun e w' => ∃ v', e = .returned v' ∧ NewP w w' v' (partsL k0 l) := by
  obtain ⟨b, o, cap, rfl, hcap, hcm, hrow⟩ := hsl.row hne
  have hblt : b < w.heap.size := by
    have h0 := List.length_pos_iff.2 hne
    have := hrow 0 h0 0 (.int .u64 l[0].c) rfl
    exact World.block_lt_of_cell? _ _ this
  have HRW : Hid (∀ (W : World), Touch (fun _ => False) w W → ∀ j (h : j < l.length), W.rangeAt b (o + j * 22) l[j].vals.toList) := fun W t j h i u hu => by
    rw [World.cell?_of_block (t.block _ hblt id)]; exact hrow j h i u hu
  have HLN : Hid (∀ (W : World), Touch (fun _ => False) w W → ∀ j (h : j < l.length), Calls Tryz.prog 17 #[l[j].val] W fun e w' => e = .returned (.int .i64 (lenO l[j] : Int)) ∧ Touch (fun _ => False) W w') := fun W t j h => ops_len l[j] (by have := hz _ (List.getElem_mem h); omega) W (hU.keep t)
  have HCT : Hid (∀ (W : World), Touch (fun _ => False) w W → ∀ j (h : j < l.length) (f tt : Int), Calls Tryz.prog 14 #[l[j].val, .int .i64 f, .int .i64 tt] W fun e w' => e = .returned (.tuple #[(cutRes l[j] f tt).val, .bool (cutOk l[j] f tt)]) ∧ Touch (fun _ => False) W w') := fun W t j h f tt => ops_cut l[j] f tt (by have := hz _ (List.getElem_mem h); omega) W (hU.keep t)
  have HK0 : Hid (∀ (W : World), Touch (fun _ => False) w W → W.cell? ⟨b, o + 1, none⟩ = some (.int .u64 k0)) := fun W t => by
    have h0 := List.length_pos_iff.2 hne
    have := HRW.out W t 0 h0 1 (.int .u64 l[0].k) rfl
    rw [hk0 h0] at this
    simpa using this
  have hn0 : (0 : Int) < (l.length : Int) := by have := List.length_pos_iff.2 hne; omega
  have HSZ : Hid (∀ j (h : j < l.length), l[j].tx.size ≤ 1000000) := fun j h => (hz _ (List.getElem_mem h)).1
  have HPL : Hid (∀ i, (partsL k0 (l.take i)).length ≤ 2 * i) := fun i => Nat.le_trans (partsL_len k0 _) (by rw [List.length_take]; omega)
  have hbs : ∀ (x : O) (W : World), (Instr.buildSlice 45 1 #[(0, x.val)]).run Tryz.prog W = .ok (.slice (some ⟨W.heap.size, 0, none⟩) 1 1) (W.alloc (opO x)) := run_build1
  clear hrow hcap hcm hblt hsl hne hz hU hk0
  go_enter Tryz.func77, Tryz.ntmps77
  go_wp2_with fail
  go_loopg [3, 15] l.length (fun gk s3 s15 wx => ∃ (i : Nat) (ao : Option Addr) (n cp : Nat), i + gk = l.length ∧ s3 = .slice ao n cp ∧ s15 = .int .i64 (i : Int) ∧ Hid (n = (partsL k0 (l.take i)).length ∧ NewP w wx (.slice ao n cp) (partsL k0 (l.take i))))
  case atStart => exact ⟨0, none, 0, 0, by omega, rfl, rfl, rfl, NewP.nil w w (Touch.refl _ _)⟩
  case round =>
    obtain ⟨i, ao, n, cp, hig, rfl, rfl, HI⟩ := hrel
    obtain ⟨wx, hwx⟩ : ∃ wx, wx = wr := ⟨_, rfl⟩
    subst hwx
    by_cases hil : i < l.length
    · have i1 : (0 : Int) ≤ (i : Int) := by omega
      have i2 : (i : Int) < (l.length : Int) := by omega
      have HRR : Hid (wx.rangeAt b (o + i * 22) l[i].vals.toList) := HRW.out wx HI.out.2.touch i hil
      have HLX : Hid (∀ W, Touch (fun _ => False) w W → Calls Tryz.prog 17 #[l[i].val] W fun e w' => e = .returned (.int .i64 (lenO l[i] : Int)) ∧ Touch (fun _ => False) W w') := fun W t => HLN.out W t i hil
      have HCX : Hid (∀ W, Touch (fun _ => False) w W → ∀ (f tt : Int), Calls Tryz.prog 14 #[l[i].val, .int .i64 f, .int .i64 tt] W fun e w' => e = .returned (.tuple #[(cutRes l[i] f tt).val, .bool (cutOk l[i] f tt)]) ∧ Touch (fun _ => False) W w') := fun W t f tt => HCT.out W t i hil f tt
      have HTF : Hid (partsL k0 (l.take (i + 1)) = partsL k0 (l.take i) ++ partsOf k0 l[i]) := take_flat (partsOf k0) l i hil
      have hlx : lenO l[i] ≤ 1000001 := by have := lenO_le l[i]; have := HSZ.out i hil; omega
      have hpn : n ≤ 2 * i := by rw [HI.out.1]; exact HPL.out i
      generalize l[i] = x at *
      have ha := ahead_bd k0 x
      have hrem := ahead_rem k0 x
      have hwi : IntKind.i64.wrap (aheadO k0 x) = aheadO k0 x := wrap_i64_small _ (by omega) (by omega)
      have hws : IntKind.i64.wrap (4096 - aheadO k0 x) = 4096 - aheadO k0 x := wrap_i64_small _ (by omega) (by omega)
      have HPO : Hid (partsOf k0 x = cutRes x 0 (min (lenO x : Int) (4096 - aheadO k0 x)) :: (bif cutOk x (min (lenO x : Int) (4096 - aheadO k0 x)) (lenO x) then [cutRes x (min (lenO x : Int) (4096 - aheadO k0 x)) (lenO x)] else [])) := rfl
      generalize aheadO k0 x = ah at *
      go_upto_region 4 with fail
      refine wp_region_lit ?_
      refine wpList_plain rfl fun K hK => ?_
      go_simp
      refine hK _ _ ?_
      clear hK K
      refine wpList_load_mid rfl 31 (.tmp 17) rfl b (o + i * 22) rfl x.vals.toList _ HRR.out Tryz.underlying31 rfl (by kernel_rfl) ?_
      simp only [Act.put, List.setIfInBounds_toArray, List.set_cons_succ, List.set_cons_zero]
      refine wpList_plain rfl fun K hK => ?_
      go_simp
      refine hK _ _ ?_
      clear hK K
      have hz : OpAt wx.heap.size zeroO (wx.alloc (.cells #[.int .u64 0, .int .u64 0, .int .i64 0, .int .u64 0, .int .u64 0, .int .u64 0, .int .u64 0, .int .u64 0, .string ⟨#[]⟩, .int .i64 0, .int .i64 0, .float .f64 0, .string ⟨#[]⟩, .string ⟨#[]⟩, .int .u64 0, .int .u64 0, .int .u64 0, .int .u64 0, .bool false, .int .u64 0, .int .u64 0, .bool false] 31)) := heap_alloc_new _ _
      refine wpList_store_mid rfl 31 (.tmp 5) (.tmp 18) rfl wx.heap.size 0 x.vals rfl rfl (hz.there 0 22 (by decide)) (by kernel_rfl) (by kernel_rfl) ?_
      simp only [Act.put]
      obtain ⟨W1, hW⟩ : ∃ W, Hid (W = (wx.alloc (.cells #[.int .u64 0, .int .u64 0, .int .i64 0, .int .u64 0, .int .u64 0, .int .u64 0, .int .u64 0, .int .u64 0, .string ⟨#[]⟩, .int .i64 0, .int .i64 0, .float .f64 0, .string ⟨#[]⟩, .string ⟨#[]⟩, .int .u64 0, .int .u64 0, .int .u64 0, .int .u64 0, .bool false, .int .u64 0, .int .u64 0, .bool false] 31)).setCells wx.heap.size 0 x.vals.toList) := ⟨_, Eq.refl _⟩
      have HW1 : Hid (Touch (fun _ => False) wx W1 ∧ OpAt wx.heap.size x W1) := by rw [hW.out]; exact ⟨((Touch.refl _ _).alloc _).stored (Nat.le_refl _) 0 _, hz.stored 0 x.vals.toList (by kernel_rfl)⟩
      rw [← hW.out]
      clear hW hz
      have q1 : W1.cell? ⟨wx.heap.size, 1, none⟩ = some (.int .u64 x.k) := HW1.out.2.q1
      have q2 : W1.cell? ⟨b, o + 1, none⟩ = some (.int .u64 k0) := HK0.out W1 (HI.out.2.touch.trans HW1.out.1)
      go_upto_region 5 with fail
      go_quiet (fail)
      clear q1 q2 hrem hwi
      have HW2 : Hid (Touch (fun _ => False) w (W1.drewN nq) ∧ Touch (fun _ => False) wx (W1.drewN nq) ∧ OpAt wx.heap.size x (W1.drewN nq)) := ⟨(HI.out.2.touch.trans HW1.out.1).drewN nq, HW1.out.1.drewN nq, HW1.out.2⟩
      generalize W1.drewN nq = W2 at *
      clear HW1
      go_upto_region 6 with fail
      refine wp_region_lit ?_
      refine wpList_load_mid rfl 31 (.tmp 5) rfl wx.heap.size 0 rfl x.vals.toList _ (rangeAt_of HW2.out.2.2) Tryz.underlying31 rfl (by kernel_rfl) ?_
      simp only [Act.put, List.setIfInBounds_toArray, List.set_cons_succ, List.set_cons_zero]
      go_wp2_with fail
      refine (HLX.out _ HW2.out.1).mono ?_
      rintro e W3 ⟨rfl, t⟩
      have HW3 : Hid (Touch (fun _ => False) w W3 ∧ Touch (fun _ => False) wx W3 ∧ OpAt wx.heap.size x W3) := ⟨HW2.out.1.trans t, HW2.out.2.1.trans t, HW2.out.2.2.keep t⟩
      clear t HW2 HLX HRR
      go_upto_region 8 with fail
      generalize (min (lenO x : Int) (4096 - ah)) = en at *
      clear hws
      refine wp_region_lit ?_
      refine wpList_load_mid rfl 31 (.tmp 5) rfl wx.heap.size 0 rfl x.vals.toList _ (rangeAt_of HW3.out.2.2) Tryz.underlying31 rfl (by kernel_rfl) ?_
      simp only [Act.put, List.setIfInBounds_toArray, List.set_cons_succ, List.set_cons_zero]
      refine wpList_plain rfl fun K hK => ?_
      go_simp
      refine hK _ _ ?_
      clear hK K
      refine wpList_plain rfl fun K hK => ?_
      go_simp
      refine (HCX.out _ HW3.out.1 _ _).mono ?_
      rintro e W4 ⟨rfl, t⟩
      have HW4 : Hid (Touch (fun _ => False) w W4 ∧ Touch (fun _ => False) wx W4 ∧ OpAt wx.heap.size x W4) := ⟨HW3.out.1.trans t, HW3.out.2.1.trans t, HW3.out.2.2.keep t⟩
      clear t HW3
      refine hK _ _ ?_
      clear hK K
      generalize cutRes x 0 en = h1 at *
      generalize cutOk x 0 en = d1 at *
      refine wpList_plain rfl fun K hK => ?_
      go_simp
      refine hK _ _ ?_
      clear hK K
      refine wpList_plain rfl fun K hK => ?_
      go_simp
      refine hK _ _ ?_
      clear hK K
      refine wpList_plain rfl fun K hK => ?_
      go_simp
      refine hK _ _ ?_
      clear hK K
      refine wpList_plain rfl fun K hK => ?_
      go_simp
      refine hK _ _ ?_
      clear hK K
      have hz : OpAt W4.heap.size zeroO (W4.alloc (.cells #[.int .u64 0, .int .u64 0, .int .i64 0, .int .u64 0, .int .u64 0, .int .u64 0, .int .u64 0, .int .u64 0, .string ⟨#[]⟩, .int .i64 0, .int .i64 0, .float .f64 0, .string ⟨#[]⟩, .string ⟨#[]⟩, .int .u64 0, .int .u64 0, .int .u64 0, .int .u64 0, .bool false, .int .u64 0, .int .u64 0, .bool false] 31)) := heap_alloc_new _ _
      refine wpList_store_mid rfl 31 (.tmp 9) (.tmp 40) rfl W4.heap.size 0 h1.vals rfl rfl (hz.there 0 22 (by decide)) (by kernel_rfl) (by kernel_rfl) ?_
      simp only [Act.put]
      obtain ⟨W5, hW⟩ : ∃ W, Hid (W = (W4.alloc (.cells #[.int .u64 0, .int .u64 0, .int .i64 0, .int .u64 0, .int .u64 0, .int .u64 0, .int .u64 0, .int .u64 0, .string ⟨#[]⟩, .int .i64 0, .int .i64 0, .float .f64 0, .string ⟨#[]⟩, .string ⟨#[]⟩, .int .u64 0, .int .u64 0, .int .u64 0, .int .u64 0, .bool false, .int .u64 0, .int .u64 0, .bool false] 31)).setCells W4.heap.size 0 h1.vals.toList) := ⟨_, Eq.refl _⟩
      have HW5 : Hid (Touch (fun _ => False) W4 W5 ∧ OpAt W4.heap.size h1 W5) := by rw [hW.out]; exact ⟨((Touch.refl _ _).alloc _).stored (Nat.le_refl _) 0 _, hz.stored 0 h1.vals.toList (by kernel_rfl)⟩
      rw [← hW.out]
      clear hW hz
      have HW6 : Hid (Touch (fun _ => False) w W5 ∧ Touch (fun _ => False) wx W5 ∧ OpAt wx.heap.size x W5 ∧ OpAt W4.heap.size h1 W5) := ⟨HW4.out.1.trans HW5.out.1, HW4.out.2.1.trans HW5.out.1, HW4.out.2.2.keep HW5.out.1, HW5.out.2⟩
      clear HW4 HW5
      obtain ⟨v5, w5, hrun, hN5, hgr⟩ := NewP.app1 (HI.out.2.on HW6.out.2.1) h1 (by rw [← HI.out.1]; omega)
      have HI2 : Hid ((n + 1) = (partsL k0 (l.take i) ++ [h1]).length ∧ NewP w w5 v5 (partsL k0 (l.take i) ++ [h1])) := ⟨by rw [List.length_append, ← HI.out.1]; rfl, hN5⟩
      have HW7 : Hid (OpAt wx.heap.size x w5) := by
        have hb := HW6.out.2.2.1.keep ((Touch.refl _ _).alloc (opO h1))
        have := hgr.block wx.heap.size (lt_of_heap hb) (fun e => by
          have := HI.out.2.owns
          rcases this.2 with ⟨e', _⟩ | ⟨g, cap', cur, e', _, hg, _⟩
          · simp only [Value.slice.injEq] at e'
            rw [e'.1] at e
            simp [Value.ownBlock] at e
          · simp only [Value.slice.injEq] at e'
            rw [e'.1] at e
            simp only [Value.ownBlock, Option.some.injEq] at e
            have := lt_of_heap hg
            omega)
        exact this.trans hb
      obtain ⟨ao5, cap5, hv5, _⟩ := hN5.shape
      have hv6 : v5 = .slice ao5 (n + 1) cap5 := by rw [hv5, List.length_append, ← HI.out.1]; rfl
      subst hv6
      clear hv5 hN5 hgr
      go_upto_region 9 with fail
      refine wp_region_lit ?_
      refine wpList_plain rfl fun K hK => ?_
      go_simp
      refine hK _ _ ?_
      clear hK K
      refine wpList_load_mid rfl 31 (.tmp 9) rfl W4.heap.size 0 rfl h1.vals.toList _ (rangeAt_of HW6.out.2.2.2) Tryz.underlying31 rfl (by kernel_rfl) ?_
      simp only [Act.put, List.setIfInBounds_toArray, List.set_cons_succ, List.set_cons_zero]
      refine wpList_plain rfl fun K hK => ?_
      go_simp
      refine hK _ _ ?_
      clear hK K
      refine wpList_append_runP rfl _ _ rfl _ _ _ rfl rfl hrun ?_
      clear hrun HW6
      simp only [Act.put, List.setIfInBounds_toArray, List.set_cons_succ, List.set_cons_zero]
      go_upto_region 10 with fail
      refine wp_region_lit ?_
      refine wpList_load_mid rfl 31 (.tmp 5) rfl wx.heap.size 0 rfl x.vals.toList _ (rangeAt_of HW7.out) Tryz.underlying31 rfl (by kernel_rfl) ?_
      simp only [Act.put, List.setIfInBounds_toArray, List.set_cons_succ, List.set_cons_zero]
      refine wpList_plain rfl fun K hK => ?_
      go_simp
      refine hK _ _ ?_
      clear hK K
      refine wpList_plain rfl fun K hK => ?_
      go_simp
      refine hK _ _ ?_
      clear hK K
      refine wpList_plain rfl fun K hK => ?_
      go_simp
      refine (HCX.out _ HI2.out.2.touch _ _).mono ?_
      rintro e W8 ⟨rfl, t⟩
      have HI3 : Hid ((n + 1) = (partsL k0 (l.take i) ++ [h1]).length ∧ NewP w W8 (.slice ao5 (n + 1) cap5) (partsL k0 (l.take i) ++ [h1])) := ⟨HI2.out.1, HI2.out.2.on t⟩
      clear t HI2 HW7 HCX
      refine hK _ _ ?_
      clear hK K
      generalize cutRes x en (lenO x : Int) = h2 at *
      generalize cutOk x en (lenO x : Int) = d2 at *
      refine wpList_plain rfl fun K hK => ?_
      go_simp
      refine hK _ _ ?_
      clear hK K
      refine wpList_plain rfl fun K hK => ?_
      go_simp
      refine hK _ _ ?_
      clear hK K
      refine wpList_plain rfl fun K hK => ?_
      go_simp
      refine hK _ _ ?_
      clear hK K
      refine wpList_plain rfl fun K hK => ?_
      go_simp
      refine hK _ _ ?_
      clear hK K
      have hz : OpAt W8.heap.size zeroO (W8.alloc (.cells #[.int .u64 0, .int .u64 0, .int .i64 0, .int .u64 0, .int .u64 0, .int .u64 0, .int .u64 0, .int .u64 0, .string ⟨#[]⟩, .int .i64 0, .int .i64 0, .float .f64 0, .string ⟨#[]⟩, .string ⟨#[]⟩, .int .u64 0, .int .u64 0, .int .u64 0, .int .u64 0, .bool false, .int .u64 0, .int .u64 0, .bool false] 31)) := heap_alloc_new _ _
      refine wpList_store_mid rfl 31 (.tmp 11) (.tmp 51) rfl W8.heap.size 0 h2.vals rfl rfl (hz.there 0 22 (by decide)) (by kernel_rfl) (by kernel_rfl) ?_
      simp only [Act.put]
      obtain ⟨W9, hW⟩ : ∃ W, Hid (W = (W8.alloc (.cells #[.int .u64 0, .int .u64 0, .int .i64 0, .int .u64 0, .int .u64 0, .int .u64 0, .int .u64 0, .int .u64 0, .string ⟨#[]⟩, .int .i64 0, .int .i64 0, .float .f64 0, .string ⟨#[]⟩, .string ⟨#[]⟩, .int .u64 0, .int .u64 0, .int .u64 0, .int .u64 0, .bool false, .int .u64 0, .int .u64 0, .bool false] 31)).setCells W8.heap.size 0 h2.vals.toList) := ⟨_, Eq.refl _⟩
      have HW9 : Hid (Touch (fun _ => False) W8 W9 ∧ OpAt W8.heap.size h2 W9) := by rw [hW.out]; exact ⟨((Touch.refl _ _).alloc _).stored (Nat.le_refl _) 0 _, hz.stored 0 h2.vals.toList (by kernel_rfl)⟩
      rw [← hW.out]
      clear hW hz
      have HI4 : Hid (NewP w W9 (.slice ao5 (n + 1) cap5) (partsL k0 (l.take i) ++ [h1])) := HI3.out.2.on HW9.out.1
      cases d2
      · have HI5 : Hid ((n + 1) = (partsL k0 (l.take (i + 1))).length ∧ NewP w W9 (.slice ao5 (n + 1) cap5) (partsL k0 (l.take (i + 1)))) := by
          rw [HTF.out, HPO.out]
          exact ⟨HI3.out.1, HI4.out⟩
        clear HI3 HI4 HI HTF HPO HW9
        go_wp2_with fail
        go_roundg (l.length - (i + 1))
        case measure => omega
        case rel => exact ⟨i + 1, ao5, n + 1, cap5, by omega, rfl, by go_num, HI5.out⟩
      · obtain ⟨v6, w6, hrun, hN6, _⟩ := NewP.app1 HI4.out h2 (by rw [← HI3.out.1]; omega)
        have HI5 : Hid ((n + 2) = (partsL k0 (l.take (i + 1))).length ∧ NewP w w6 v6 (partsL k0 (l.take (i + 1)))) := by
          rw [HTF.out, HPO.out]
          have e : partsL k0 (l.take i) ++ (h1 :: (bif true then [h2] else [])) = partsL k0 (l.take i) ++ [h1] ++ [h2] := by simp
          rw [e]
          exact ⟨by rw [List.length_append, ← HI3.out.1]; rfl, hN6⟩
        obtain ⟨ao6, cap6, hv6, _⟩ := hN6.shape
        have hv7 : v6 = .slice ao6 (n + 2) cap6 := by rw [hv6, List.length_append, ← HI3.out.1]; rfl
        subst hv7
        clear hv6 hN6 HI3 HI4 HI HTF HPO
        go_upto_region 12 with fail
        refine wp_region_lit ?_
        refine wpList_plain rfl fun K hK => ?_
        go_simp
        refine hK _ _ ?_
        clear hK K
        refine wpList_load_mid rfl 31 (.tmp 11) rfl W8.heap.size 0 rfl h2.vals.toList _ (rangeAt_of HW9.out.2) Tryz.underlying31 rfl (by kernel_rfl) ?_
        simp only [Act.put, List.setIfInBounds_toArray, List.set_cons_succ, List.set_cons_zero]
        refine wpList_plain rfl fun K hK => ?_
        go_simp
        refine hK _ _ ?_
        clear hK K
        refine wpList_append_runP rfl _ _ rfl _ _ _ rfl rfl hrun ?_
        clear hrun HW9
        simp only [Act.put, List.setIfInBounds_toArray, List.set_cons_succ, List.set_cons_zero]
        go_wp2_with fail
        go_roundg (l.length - (i + 1))
        case measure => omega
        case rel => exact ⟨i + 1, ao6, n + 2, cap6, by omega, rfl, by go_num, HI5.out⟩
    · obtain hil2 : i = l.length := by omega
      have i2 : ¬ (i : Int) < (l.length : Int) := by omega
      have HA : Hid (NewP w wx (.slice ao n cp) (partsL k0 l)) := by
        have := HI.out.2
        rw [hil2, List.take_length] at this
        exact this
      clear hil2 HI
      go_wp2_with fail
      go_ret
      exact ⟨_, rfl, HA.out⟩
end Go.Proofs.YtphcnjbiojdalaaGreatDoor
