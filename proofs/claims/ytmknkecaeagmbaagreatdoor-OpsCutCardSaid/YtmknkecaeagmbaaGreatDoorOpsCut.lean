/- For every operation and places quirelaw8.OpsCut answers true: the walk. -/
import Derived.Test.YtmknkecaeagmbaaGreatDoorPart21
import Derived.Test.YtmknkecaeagmbaaGreatDoorKnown8
import Derived.Test.YtmknkecaeagmbaaGreatDoorCutM
import Derived.Test.YtmknkecaeagmbaaGreatDoorPart17
import Derived.Deep.RegionHeld3
import Derived.Deep.MidRow
namespace Go.Proofs.YtmknkecaeagmbaaGreatDoor
open Go.RowKit
set_option linter.unusedVariables false
set_option linter.unusedSimpArgs false
set_option maxRecDepth 100000

/-- What is asked of an operation's two pieces. -/
structure TwoAll (w : World) (o x y : O) (e n : Nat) : Prop where
  cx : ∀ W, Touch (fun _ => False) w W → Calls Tryz.prog 14 #[o.val, .int .i64 0, .int .i64 (e : Int)] W fun r w' => r = .returned (.tuple #[x.val, .bool true]) ∧ Touch (fun _ => False) W w'
  cy : ∀ W, Touch (fun _ => False) w W → Calls Tryz.prog 14 #[o.val, .int .i64 (e : Int), .int .i64 (n : Int)] W fun r w' => r = .returned (.tuple #[y.val, .bool true]) ∧ Touch (fun _ => False) W w'
  kx : ∀ W, Touch (fun _ => False) w W → Calls Tryz.prog 11 #[x.val] W fun r w' => r = .returned (.int .i64 0) ∧ Touch (fun _ => False) W w'
  ky : ∀ W, Touch (fun _ => False) w W → Calls Tryz.prog 11 #[y.val] W fun r w' => r = .returned (.int .i64 0) ∧ Touch (fun _ => False) W w'
  fi : ∀ W, Touch (fun _ => False) w W → Calls Tryz.prog 21 #[x.val, y.val] W fun r w' => r = .returned (.bool true) ∧ Touch (fun _ => False) W w'
  jo : ∀ W v, Touch (fun _ => False) w W → SlP W v [y, x] → Calls Tryz.prog 23 #[v] W fun r w' => ∃ ao cap, r = .returned (.slice ao 1 cap) ∧ Touch (fun _ => False) W w' ∧ SlP w' (.slice ao 1 cap) [o]
theorem two_all (o : O) (hf : o.fits) (s1 : o.tx.size ≤ 20000) (s2 : o.ky.size ≤ 200) (s3 : o.vs.size ≤ 6000) (hc : checkB o = true) (w : World) (hU : TabsU w) (e : Nat) (h1 : 1 ≤ e) (h2 : e < lenO o) : ∃ x y, TwoAll w o x y e (lenO o) := by
  have k1 : o.kind = 1 := by
    by_cases h : o.kind = 1
    · exact h
    · have := lenO_other h; omega
  have hT := textO_of hf (by omega) k1 hc
  have hn2 := hT.n2
  have zx := piece_size k1 0 e (by omega) (by omega) hn2
  have zy := piece_size k1 e (lenO o) h2 (Nat.le_refl _) hn2
  have kx := piece_check hf (by omega) k1 hc 0 e (by omega) (by omega)
  have ky := piece_check hf (by omega) k1 hc e (lenO o) h2 (Nat.le_refl _)
  have tx := piece_text hf (by omega) k1 hc 0 e (by omega) (by omega)
  have gg := piece_goes hf (by omega) k1 hc e h1 h2
  have tw := piece_two hf (by omega) k1 hc e h1 h2
  have c1 := hT.cut 0 e (by omega) (by omega)
  have c2 := hT.cut e (lenO o) h2 (Nat.le_refl _)
  have rx := piece_rest o 0 e
  have ry := piece_rest o e (lenO o)
  have ex : (pieceO o 0 e).ky = o.ky ∧ (pieceO o 0 e).vs = o.vs ∧ (pieceO o 0 e).vf = o.vf := ⟨rx.2.2.2.2.1, congrArg V.s rx.2.2.1, congrArg V.f rx.2.2.1⟩
  have ey : (pieceO o e (lenO o)).ky = o.ky ∧ (pieceO o e (lenO o)).vs = o.vs ∧ (pieceO o e (lenO o)).vf = o.vf := ⟨ry.2.2.2.2.1, congrArg V.s ry.2.2.1, congrArg V.f ry.2.2.1⟩
  have hvf := hf.vf
  have hlen : (rsO o).length ≤ 4096 := by rw [← hT.len]; exact hn2
  clear rx ry
  refine ⟨pieceO o 0 e, pieceO o e (lenO o), ?_, ?_, ?_, ?_, ?_, ?_⟩
  · intro W t
    have := ops_cut o ((0 : Nat) : Int) (e : Int) (by omega) W (hU.keep t)
    rw [c1.1, c1.2] at this
    exact this
  · intro W t
    have := ops_cut o (e : Int) (lenO o : Int) (by omega) W (hU.keep t)
    rw [c2.1, c2.2] at this
    exact this
  · intro W t
    have := ops_check (pieceO o 0 e) ⟨by omega, by rw [ex.1]; omega, by rw [ex.2.1]; omega, by rw [ex.2.2]; exact hvf⟩ W (hU.keep t)
    rw [kx] at this
    exact this
  · intro W t
    have := ops_check (pieceO o e (lenO o)) ⟨by omega, by rw [ey.1]; omega, by rw [ey.2.1]; omega, by rw [ey.2.2]; exact hvf⟩ W (hU.keep t)
    rw [ky] at this
    exact this
  · intro W t
    have := ops_fits (pieceO o 0 e) (pieceO o e (lenO o)) (by omega) W (hU.keep t)
    rw [gg] at this
    exact this
  · intro W v t hv
    have hfl : [pieceO o e (lenO o), pieceO o 0 e].filter checkB = [pieceO o e (lenO o), pieceO o 0 e] := by
      rw [List.filter_cons_of_pos ky, List.filter_cons_of_pos kx, List.filter_nil]
    refine (join_any [pieceO o e (lenO o), pieceO o 0 e] (pieceO o 0 e) [pieceO o e (lenO o)] 0 v W (hU.keep t) hv (by simp) ?_ ?_ tx tw.1 ?_ (by omega)).mono ?_
    · intro z hz
      simp only [List.mem_cons, List.not_mem_nil, or_false] at hz
      rcases hz with rfl | rfl
      · exact ⟨zy, by rw [ey.1]; omega, by rw [ey.2.1]; omega, by rw [ey.2.2]; exact hvf⟩
      · exact ⟨zx, by rw [ex.1]; omega, by rw [ex.2.1]; omega, by rw [ex.2.2]; exact hvf⟩
    · rw [hfl]
      exact List.Perm.swap _ _ []
    · rw [tw.2.1]
      omega
    · rintro r w' ⟨v', rfl, hN⟩
      rw [tw.2.1, chunks_small _ hlen, tw.2.2] at hN
      obtain ⟨ao, cap, e1, _⟩ := hN.sl
      have h3 := hN.sl
      have h4 := hN.touch
      subst e1
      exact ⟨ao, cap, rfl, h4, h3⟩
theorem SlP.lit1 (W : World) (x : O) : SlP (W.alloc (opO x)) (.slice (some ⟨W.heap.size, 0, none⟩) 1 1) [x] := ⟨_, _, rfl, (fun h => by cases h), Nat.le_refl _, by decide, LiesP.new W x⟩
set_option maxHeartbeats 16000000 in
theorem opsCut_any (o : O) (hf : o.fits) (f tt k : Int) (w : World) (hU : TabsU w) : Calls Tryz.prog 4 #[o.val, .int .i64 f, .int .i64 tt, .int .i64 k] w fun e w' => e = .returned (.bool true) ∧ Touch (fun _ => False) w w' := by
  have HKn : Hid (∀ W, Touch (fun _ => False) w W → Calls Tryz.prog 9 #[] W fun e w' => e = .returned (.bool true) ∧ Touch (fun _ => False) W w') := fun W t => known_any W (hU.keep t)
  have HLi : Hid (∀ W, Touch (fun _ => False) w W → Calls Tryz.prog 10 #[o.val] W fun e w' => e = .returned (.bool (lightB o)) ∧ Touch (fun _ => False) W w') := fun W t => light_any o W
  have HLt : Hid (lightB o = true → o.tx.size ≤ 20000 ∧ o.ky.size ≤ 200 ∧ o.vs.size ≤ 6000) := fun h => (light_iff o).1 h
  have HFu : Hid (o.fits ∧ TabsU w) := ⟨hf, hU⟩
  clear hf hU
  generalize lightB o = lb at *
  go_enter Tryz.func4, Tryz.ntmps4
  go_upto_region 1 with fail
  obtain ⟨W0, hW0⟩ : ∃ W0, Hid (W0 = w.alloc (opO o)) := ⟨_, Eq.refl _⟩
  have HW0 : Hid (Touch (fun _ => False) w W0 ∧ OpAt w.heap.size o W0 ∧ True) := by rw [hW0.out]; exact ⟨(Touch.refl _ _).alloc _, heap_alloc_new _ _, trivial⟩
  rw [← hW0.out]
  clear hW0
  go_wp2_with fail
  refine (HKn.out _ HW0.out.1).mono ?_
  rintro e W1 ⟨rfl, t⟩
  have HW1 : Hid (Touch (fun _ => False) w W1 ∧ OpAt w.heap.size o W1 ∧ True) := ⟨HW0.out.1.trans t, HW0.out.2.1.keep t, trivial⟩
  clear t HW0
  go_upto_region 3 with fail
  refine wp_region_lit ?_
  refine wpList_load_mid rfl 31 (.tmp 4) rfl w.heap.size 0 rfl o.vals.toList _ (rangeAt_of HW1.out.2.1) Tryz.underlying31 rfl (by kernel_rfl) ?_
  simp only [Act.put, List.setIfInBounds_toArray, List.set_cons_succ, List.set_cons_zero]
  refine wpList_plain rfl fun K hK => ?_
  go_simp
  refine (HLi.out _ HW1.out.1).mono ?_
  rintro e W2 ⟨rfl, t⟩
  have HW2 : Hid (Touch (fun _ => False) w W2 ∧ OpAt w.heap.size o W2 ∧ True) := ⟨HW1.out.1.trans t, HW1.out.2.1.keep t, trivial⟩
  clear t HW1
  refine hK _ _ ?_
  clear hK K
  refine wpList_plain rfl fun K hK => ?_
  go_simp
  refine hK _ _ ?_
  clear hK K
  refine wpList_plain rfl fun K hK => ?_
  go_simp
  refine hK _ _ ?_
  clear hK K
  cases lb
  · go_wp2_with fail
    go_ret
    exact ⟨rfl, HW2.out.1⟩
  obtain ⟨s1, s2, s3⟩ := HLt.out rfl
  have HCa : Hid (∀ W, Touch (fun _ => False) w W → Calls Tryz.prog 12 #[o.val] W fun e w' => e = .returned (.int .i64 (opErr (rchk o))) ∧ Touch (fun _ => False) W w') := fun W t => ref_checkO o ⟨by omega, by omega, by omega⟩ W
  have HLn : Hid (∀ W, Touch (fun _ => False) w W → Calls Tryz.prog 13 #[o.val] W fun e w' => e = .returned (.int .i64 (lenO o : Int)) ∧ Touch (fun _ => False) W w') := fun W t => ref_lenO o (by omega) W
  have HL2 : Hid (∀ W, Touch (fun _ => False) w W → Calls Tryz.prog 17 #[o.val] W fun e w' => e = .returned (.int .i64 (lenO o : Int)) ∧ Touch (fun _ => False) W w') := fun W t => ops_len o (by omega) W (HFu.out.2.keep t)
  have HC1 : Hid (∀ W, Touch (fun _ => False) w W → Calls Tryz.prog 14 #[o.val, .int .i64 f, .int .i64 tt] W fun e w' => e = .returned (.tuple #[(cutRes o f tt).val, .bool (cutOk o f tt)]) ∧ Touch (fun _ => False) W w') := fun W t => ops_cut o f tt (by omega) W (HFu.out.2.keep t)
  have HC2 : Hid (∀ W, Touch (fun _ => False) w W → Calls Tryz.prog 15 #[o.val, .int .i64 f, .int .i64 tt] W fun e w' => e = .returned (.tuple #[(cutRef o f tt).val, .bool (cutOk o f tt)]) ∧ Touch (fun _ => False) W w') := fun W t => ref_cutO o f tt (by omega) W
  have HR1 : Hid (∀ W, Touch (fun _ => False) w W → Calls Tryz.prog 18 #[o.val] W fun e w' => e = .returned (rangeV o) ∧ Touch (fun _ => False) W w') := fun W t => ops_range o (by omega) W (HFu.out.2.keep t)
  have HR2 : Hid (∀ W, Touch (fun _ => False) w W → Calls Tryz.prog 19 #[o.val] W fun e w' => e = .returned (rangeV o) ∧ Touch (fun _ => False) W w') := fun W t => ref_range o (by omega) W
  have HS : Hid (∀ W, Touch (fun _ => False) w W → Calls Tryz.prog 16 #[(cutRes o f tt).val, (cutRef o f tt).val] W fun e w' => e = .returned (.bool true) ∧ Touch (fun _ => False) W w') := fun W t => by
    have := ref_same (cutRes o f tt) (cutRef o f tt) (cutRes_vf o f tt HFu.out.1.vf) (cutRef_vf o f tt HFu.out.1.vf) W
    rw [cut_same] at this
    exact this
  have HAll : Hid (rchk o = true → ∀ e, 1 ≤ e → e < lenO o → ∃ x y, TwoAll w o x y e (lenO o)) := fun h e h1 h2 => two_all o HFu.out.1 s1 s2 s3 (by rw [chk_eq o HFu.out.1 (by omega)]; exact h) w HFu.out.2 e h1 h2
  have HSm : Hid (∀ W v1 v2, SlP W v1 [o] → SlP W v2 [o] → Calls Tryz.prog 22 #[v1, v2] W fun e w' => e = .returned (.bool true) ∧ Touch (fun _ => False) W w') := fun W v1 v2 h1 h2 => sameAll_any [o] [o] (by simp) rfl v1 v2 W h1 h2 (by simp) (by simpa using HFu.out.1.vf) (by simpa using HFu.out.1.vf) (fun j _ _ => same_same _)
  have HL0 : Hid (1 ≤ lenO o ∧ lenO o ≤ 20001 ∨ lenO o = 0) := by have := lenO_le o; show _ ∨ _; omega
  have HPl : Hid (∀ W, 2 ≤ lenO o → Calls Tryz.prog 20 #[.int .i64 k, .int .i64 ((lenO o : Int) - 1)] W fun e w' => (∃ p : Nat, e = .returned (.int .i64 (p : Int)) ∧ p + 1 < lenO o) ∧ Touch (fun _ => False) W w') := fun W h => (place_in k ((lenO o : Int) - 1) (by omega) (by have := lenO_le o; omega) W).mono (by rintro e w' ⟨⟨p, rfl, hp⟩, rfl⟩; exact ⟨⟨p, rfl, by omega⟩, Touch.refl _ _⟩)
  have HN0 : Hid (rchk o = true → ¬ lenO o = 0) := fun h => by
    rw [← chk_eq o HFu.out.1 (by omega)] at h
    by_cases k1 : o.kind = 1
    · have := (text_iff o HFu.out.1 (by omega) k1).1 h; omega
    · have := lenO_other k1; omega
  clear s1 s2 s3
  have o1 : opErr true = 0 := rfl
  have o2 : opErr false = 120 := rfl
  generalize rchk o = ca at *
  generalize hlen : lenO o = n at *
  have HLen : Hid (lenO o = n) := hlen
  clear hlen
  generalize cutRes o f tt = ra at *
  generalize cutRef o f tt = rb at *
  generalize cutOk o f tt = ck at *
  generalize endO o = en at *
  refine wpList_step fun K hK => ?_
  rw [if_pos (by kernel_rfl)]
  refine wp_load_mid 31 (.tmp 4) rfl w.heap.size 0 rfl o.vals.toList _ (rangeAt_of HW2.out.2.1) Tryz.underlying31 rfl (by kernel_rfl) (hK _ _ ?_)
  clear hK K
  simp only [Act.put, List.setIfInBounds_toArray, List.set_cons_succ, List.set_cons_zero]
  refine wpList_step fun K hK => ?_
  rw [if_pos (by kernel_rfl)]
  go_simp
  refine (HCa.out _ HW2.out.1).mono ?_
  rintro e W3 ⟨rfl, t⟩
  have HW3 : Hid (Touch (fun _ => False) w W3 ∧ OpAt w.heap.size o W3 ∧ True) := ⟨HW2.out.1.trans t, HW2.out.2.1.keep t, trivial⟩
  clear t HW2
  refine hK _ _ ?_
  clear hK K
  cases ca
  · go_wp2_with fail
    go_ret
    exact ⟨rfl, HW3.out.1⟩
  have ckk : (ck == ck) = true := by simp
  have ckn : (ck != ck) = false := by simp
  have nnn : ((n : Int) == (n : Int)) = true := by simp
  go_upto_region 5 with fail
  refine wp_region_lit ?_
  refine wpList_load_mid rfl 31 (.tmp 4) rfl w.heap.size 0 rfl o.vals.toList _ (rangeAt_of HW3.out.2.1) Tryz.underlying31 rfl (by kernel_rfl) ?_
  simp only [Act.put, List.setIfInBounds_toArray, List.set_cons_succ, List.set_cons_zero]
  refine wpList_plain rfl fun K hK => ?_
  go_simp
  refine (HLn.out _ HW3.out.1).mono ?_
  rintro e W4 ⟨rfl, t⟩
  have HW4 : Hid (Touch (fun _ => False) w W4 ∧ OpAt w.heap.size o W4 ∧ True) := ⟨HW3.out.1.trans t, HW3.out.2.1.keep t, trivial⟩
  clear t HW3
  refine hK _ _ ?_
  clear hK K
  refine wpList_plain rfl fun K hK => ?_
  go_simp
  refine hK _ _ ?_
  clear hK K
  go_upto_region 6 with fail
  refine wp_region_lit ?_
  refine wpList_load_mid rfl 31 (.tmp 4) rfl w.heap.size 0 rfl o.vals.toList _ (rangeAt_of HW4.out.2.1) Tryz.underlying31 rfl (by kernel_rfl) ?_
  simp only [Act.put, List.setIfInBounds_toArray, List.set_cons_succ, List.set_cons_zero]
  refine wpList_plain rfl fun K hK => ?_
  go_simp
  refine hK _ _ ?_
  clear hK K
  refine wpList_plain rfl fun K hK => ?_
  go_simp
  refine hK _ _ ?_
  clear hK K
  refine wpList_plain rfl fun K hK => ?_
  go_simp
  refine (HC1.out _ HW4.out.1).mono ?_
  rintro e W5 ⟨rfl, t⟩
  have HW5 : Hid (Touch (fun _ => False) w W5 ∧ OpAt w.heap.size o W5 ∧ True) := ⟨HW4.out.1.trans t, HW4.out.2.1.keep t, trivial⟩
  clear t HW4
  refine hK _ _ ?_
  clear hK K
  refine wpList_plain rfl fun K hK => ?_
  go_simp
  refine hK _ _ ?_
  clear hK K
  refine wpList_plain rfl fun K hK => ?_
  go_simp
  refine hK _ _ ?_
  clear hK K
  refine wpList_plain rfl fun K hK => ?_
  go_simp
  refine hK _ _ ?_
  clear hK K
  refine wpList_plain rfl fun K hK => ?_
  go_simp
  refine hK _ _ ?_
  clear hK K
  have hz : OpAt W5.heap.size zeroO (W5.alloc (.cells #[.int .u64 0, .int .u64 0, .int .i64 0, .int .u64 0, .int .u64 0, .int .u64 0, .int .u64 0, .int .u64 0, .string ⟨#[]⟩, .int .i64 0, .int .i64 0, .float .f64 0, .string ⟨#[]⟩, .string ⟨#[]⟩, .int .u64 0, .int .u64 0, .int .u64 0, .int .u64 0, .bool false, .int .u64 0, .int .u64 0, .bool false] 31)) := heap_alloc_new _ _
  refine wpList_store_mid rfl 31 (.tmp 10) (.tmp 35) rfl W5.heap.size 0 ra.vals rfl rfl (hz.there 0 22 (by decide)) (by kernel_rfl) (by kernel_rfl) ?_
  simp only [Act.put]
  obtain ⟨W6, hW⟩ : ∃ W, Hid (W = (W5.alloc (.cells #[.int .u64 0, .int .u64 0, .int .i64 0, .int .u64 0, .int .u64 0, .int .u64 0, .int .u64 0, .int .u64 0, .string ⟨#[]⟩, .int .i64 0, .int .i64 0, .float .f64 0, .string ⟨#[]⟩, .string ⟨#[]⟩, .int .u64 0, .int .u64 0, .int .u64 0, .int .u64 0, .bool false, .int .u64 0, .int .u64 0, .bool false] 31)).setCells W5.heap.size 0 ra.vals.toList) := ⟨_, Eq.refl _⟩
  have h9 : Touch (fun _ => False) W5 W6 ∧ OpAt W5.heap.size ra W6 := by rw [hW.out]; exact ⟨((Touch.refl _ _).alloc _).stored (Nat.le_refl _) 0 _, hz.stored 0 ra.vals.toList (by kernel_rfl)⟩
  have HW6 : Hid (Touch (fun _ => False) w W6 ∧ OpAt w.heap.size o W6 ∧ OpAt W5.heap.size ra W6 ∧ True) := ⟨HW5.out.1.trans h9.1, HW5.out.2.1.keep h9.1, h9.2, trivial⟩
  rw [← hW.out]
  clear hW hz h9 HW5
  refine wpList_plain rfl fun K hK => ?_
  go_simp
  refine hK _ _ ?_
  clear hK K
  go_upto_region 7 with fail
  refine wp_region_lit ?_
  refine wpList_load_mid rfl 31 (.tmp 4) rfl w.heap.size 0 rfl o.vals.toList _ (rangeAt_of HW6.out.2.1) Tryz.underlying31 rfl (by kernel_rfl) ?_
  simp only [Act.put, List.setIfInBounds_toArray, List.set_cons_succ, List.set_cons_zero]
  refine wpList_plain rfl fun K hK => ?_
  go_simp
  refine hK _ _ ?_
  clear hK K
  refine wpList_plain rfl fun K hK => ?_
  go_simp
  refine hK _ _ ?_
  clear hK K
  refine wpList_plain rfl fun K hK => ?_
  go_simp
  refine (HC2.out _ HW6.out.1).mono ?_
  rintro e W7 ⟨rfl, t⟩
  have HW7 : Hid (Touch (fun _ => False) w W7 ∧ OpAt w.heap.size o W7 ∧ OpAt W5.heap.size ra W7 ∧ True) := ⟨HW6.out.1.trans t, HW6.out.2.1.keep t, HW6.out.2.2.1.keep t, trivial⟩
  clear t HW6
  refine hK _ _ ?_
  clear hK K
  refine wpList_plain rfl fun K hK => ?_
  go_simp
  refine hK _ _ ?_
  clear hK K
  refine wpList_plain rfl fun K hK => ?_
  go_simp
  refine hK _ _ ?_
  clear hK K
  refine wpList_plain rfl fun K hK => ?_
  go_simp
  refine hK _ _ ?_
  clear hK K
  refine wpList_plain rfl fun K hK => ?_
  go_simp
  refine hK _ _ ?_
  clear hK K
  have hz : OpAt W7.heap.size zeroO (W7.alloc (.cells #[.int .u64 0, .int .u64 0, .int .i64 0, .int .u64 0, .int .u64 0, .int .u64 0, .int .u64 0, .int .u64 0, .string ⟨#[]⟩, .int .i64 0, .int .i64 0, .float .f64 0, .string ⟨#[]⟩, .string ⟨#[]⟩, .int .u64 0, .int .u64 0, .int .u64 0, .int .u64 0, .bool false, .int .u64 0, .int .u64 0, .bool false] 31)) := heap_alloc_new _ _
  refine wpList_store_mid rfl 31 (.tmp 12) (.tmp 42) rfl W7.heap.size 0 rb.vals rfl rfl (hz.there 0 22 (by decide)) (by kernel_rfl) (by kernel_rfl) ?_
  simp only [Act.put]
  obtain ⟨W8, hW⟩ : ∃ W, Hid (W = (W7.alloc (.cells #[.int .u64 0, .int .u64 0, .int .i64 0, .int .u64 0, .int .u64 0, .int .u64 0, .int .u64 0, .int .u64 0, .string ⟨#[]⟩, .int .i64 0, .int .i64 0, .float .f64 0, .string ⟨#[]⟩, .string ⟨#[]⟩, .int .u64 0, .int .u64 0, .int .u64 0, .int .u64 0, .bool false, .int .u64 0, .int .u64 0, .bool false] 31)).setCells W7.heap.size 0 rb.vals.toList) := ⟨_, Eq.refl _⟩
  have h9 : Touch (fun _ => False) W7 W8 ∧ OpAt W7.heap.size rb W8 := by rw [hW.out]; exact ⟨((Touch.refl _ _).alloc _).stored (Nat.le_refl _) 0 _, hz.stored 0 rb.vals.toList (by kernel_rfl)⟩
  have HW8 : Hid (Touch (fun _ => False) w W8 ∧ OpAt w.heap.size o W8 ∧ OpAt W5.heap.size ra W8 ∧ OpAt W7.heap.size rb W8 ∧ True) := ⟨HW7.out.1.trans h9.1, HW7.out.2.1.keep h9.1, HW7.out.2.2.1.keep h9.1, h9.2, trivial⟩
  rw [← hW.out]
  clear hW hz h9 HW7
  refine wpList_plain rfl fun K hK => ?_
  go_simp
  refine hK _ _ ?_
  clear hK K
  go_upto_region 8 with fail
  have HY0 : Hid (Touch (fun _ => False) w W8.drew ∧ OpAt w.heap.size o W8.drew ∧ OpAt W5.heap.size ra W8.drew ∧ OpAt W7.heap.size rb W8.drew ∧ True) := ⟨HW8.out.1.drew, HW8.out.2⟩
  clear HW8
  refine wp_region_held_drew (S := fun W' => OpAt w.heap.size o W' ∧ OpAt W5.heap.size ra W' ∧ OpAt W7.heap.size rb W' ∧ True) (by kernel_rfl) HY0.out.2 (fun hHeld => ?_)
  refine wpAnyH_take (i := 0) (oi := { dst := some 44, op := Go.Op.move (Go.Operand.tmp 11), type := 4, pos := "law.go:72", after := #[], guard := none }) (v := .bool ck) rfl (by kernel_rfl) (by kernel_rfl) (by kernel_rfl) (fun _ _ _ h => h) (Or.inl ⟨by rfl, ?_⟩) hHeld ?_
  · intro w hSw; clear hSw; go_simp
  simp only [Act.put, List.setIfInBounds_toArray]
  refine wpAnyH_take (i := 1) (oi := { dst := some 45, op := Go.Op.move (Go.Operand.tmp 13), type := 4, pos := "law.go:72", after := #[], guard := none }) (v := .bool ck) rfl (by kernel_rfl) (by kernel_rfl) (by kernel_rfl) (fun _ _ _ h => h) (Or.inl ⟨by rfl, ?_⟩) hHeld ?_
  · intro w hSw; clear hSw; go_simp
  simp only [Act.put, List.setIfInBounds_toArray]
  refine wpAnyH_take (i := 2) (oi := { dst := some 46, op := Go.Op.binOp Go.BinOp.neq 4 (Go.Operand.tmp 44) (Go.Operand.tmp 45) 4, type := 4, pos := "law.go:72", after := #[{ on := 0, ground := Go.Ground.data }, { on := 1, ground := Go.Ground.data }], guard := none }) (v := .bool false) rfl (by kernel_rfl) (by kernel_rfl) (by kernel_rfl) (fun _ _ _ h => h) (Or.inl ⟨by rfl, ?_⟩) hHeld ?_
  · intro w hSw; clear hSw; go_simp
  simp only [Act.put, List.setIfInBounds_toArray]
  refine wpAnyH_take (i := 3) (oi := { dst := some 47, op := Go.Op.move (Go.Operand.tmp 46), type := 4, pos := "law.go:72", after := #[{ on := 2, ground := Go.Ground.data }], guard := none }) (v := .bool false) rfl (by kernel_rfl) (by kernel_rfl) (by kernel_rfl) (fun _ _ _ h => h) (Or.inl ⟨by rfl, ?_⟩) hHeld ?_
  · intro w hSw; clear hSw; go_simp
  simp only [Act.put, List.setIfInBounds_toArray]
  refine wpAnyH_take (i := 4) (oi := { dst := some 48, op := Go.Op.load 31 (Go.Operand.tmp 10), type := 31, pos := "law.go:72", after := #[{ on := 3, ground := Go.Ground.guard }], guard := some (3, false) }) (v := ra.val) rfl (by kernel_rfl) (by kernel_rfl) (by kernel_rfl) (fun _ _ _ h => h) (yieldsIf_load_mid (by rfl) 31 (.tmp 10) rfl (W5.heap.size) 0 rfl ra.vals.toList _ (fun w hw => rangeAt_of hw.2.1) Tryz.underlying31 rfl (by kernel_rfl)) hHeld ?_
  simp only [Act.put, List.setIfInBounds_toArray]
  refine wpAnyH_take (i := 5) (oi := { dst := some 49, op := Go.Op.load 31 (Go.Operand.tmp 12), type := 31, pos := "law.go:72", after := #[{ on := 3, ground := Go.Ground.guard }], guard := some (3, false) }) (v := rb.val) rfl (by kernel_rfl) (by kernel_rfl) (by kernel_rfl) (fun _ _ _ h => h) (yieldsIf_load_mid (by rfl) 31 (.tmp 12) rfl (W7.heap.size) 0 rfl rb.vals.toList _ (fun w hw => rangeAt_of hw.2.2.1) Tryz.underlying31 rfl (by kernel_rfl)) hHeld ?_
  simp only [Act.put, List.setIfInBounds_toArray]
  refine wpAnyH_ready (rs := [6]) (by kernel_rfl) (by simp) ?_
  refine AllReadyH.cons (o := { dst := some 50, op := Go.Op.call { callee := Go.Callee.value (Go.Operand.func 16), args := #[Go.Operand.tmp 48, Go.Operand.tmp 49], argTypes := #[31, 31] }, type := 4, pos := "law.go:72", after := #[{ on := 4, ground := Go.Ground.data }, { on := 5, ground := Go.Ground.data }, { on := 3, ground := Go.Ground.chain }, { on := 3, ground := Go.Ground.guard }], guard := some (3, false) }) rfl (fun K hK => ?_) AllReadyH.nil
  go_simp
  refine (HS.out _ HY0.out.1).mono ?_
  rintro e Y1 ⟨rfl, t⟩
  have HY1 : Hid (Touch (fun _ => False) w Y1 ∧ OpAt w.heap.size o Y1 ∧ OpAt W5.heap.size ra Y1 ∧ OpAt W7.heap.size rb Y1 ∧ True) := ⟨HY0.out.1.trans t, HY0.out.2.1.keep t, HY0.out.2.2.1.keep t, HY0.out.2.2.2.1.keep t, trivial⟩
  have hS2 : OpAt w.heap.size o Y1 ∧ OpAt W5.heap.size ra Y1 ∧ OpAt W7.heap.size rb Y1 ∧ True := HY1.out.2
  clear t HY0
  refine hK.out _ _ hS2 (fun hHeld => ?_)
  clear hK K hS2
  refine wpAnyH_take (i := 7) (oi := { dst := some 51, op := Go.Op.unOp Go.UnOp.not 4 (Go.Operand.tmp 50), type := 4, pos := "law.go:72", after := #[{ on := 6, ground := Go.Ground.data }, { on := 3, ground := Go.Ground.guard }], guard := some (3, false) }) (v := .bool false) rfl (by kernel_rfl) (by kernel_rfl) (by kernel_rfl) (fun _ _ _ h => h) (Or.inl ⟨by rfl, ?_⟩) hHeld ?_
  · intro w hSw; clear hSw; go_simp
  simp only [Act.put, List.setIfInBounds_toArray]
  refine wpAnyH_take (i := 8) (oi := { dst := some 52, op := Go.Op.pick (Go.Operand.tmp 47) (Go.Operand.const (Go.Value.bool true)) (Go.Operand.tmp 51), type := 4, pos := "law.go:72", after := #[{ on := 3, ground := Go.Ground.data }, { on := 7, ground := Go.Ground.data }], guard := none }) (v := .bool false) rfl (by kernel_rfl) (by kernel_rfl) (by kernel_rfl) (fun _ _ _ h => h) (Or.inl ⟨by rfl, ?_⟩) hHeld ?_
  · intro w hSw; clear hSw; go_simp
  simp only [Act.put, List.setIfInBounds_toArray]
  refine wpAnyH_take (i := 9) (oi := { dst := some 53, op := Go.Op.move (Go.Operand.tmp 52), type := 4, pos := "law.go:72", after := #[{ on := 8, ground := Go.Ground.data }, { on := 6, ground := Go.Ground.chain }], guard := none }) (v := .bool false) rfl (by kernel_rfl) (by kernel_rfl) (by kernel_rfl) (fun _ _ _ h => h) (Or.inl ⟨by rfl, ?_⟩) hHeld ?_
  · intro w hSw; clear hSw; go_simp
  simp only [Act.put, List.setIfInBounds_toArray]
  refine wpAnyH_take (i := 10) (oi := { dst := some 54, op := Go.Op.load 31 (Go.Operand.tmp 4), type := 31, pos := "law.go:72", after := #[{ on := 9, ground := Go.Ground.guard }], guard := some (9, false) }) (v := o.val) rfl (by kernel_rfl) (by kernel_rfl) (by kernel_rfl) (fun _ _ _ h => h) (yieldsIf_load_mid (by rfl) 31 (.tmp 4) rfl w.heap.size 0 rfl o.vals.toList _ (fun w hw => rangeAt_of hw.1) Tryz.underlying31 rfl (by kernel_rfl)) hHeld ?_
  simp only [Act.put, List.setIfInBounds_toArray]
  refine wpAnyH_take (i := 12) (oi := { dst := some 56, op := Go.Op.move (Go.Operand.tmp 9), type := 3, pos := "law.go:72", after := #[{ on := 9, ground := Go.Ground.guard }], guard := some (9, false) }) (v := .int .i64 (n : Int)) rfl (by kernel_rfl) (by kernel_rfl) (by kernel_rfl) (fun _ _ _ h => h) (Or.inl ⟨by rfl, ?_⟩) hHeld ?_
  · intro w hSw; clear hSw; go_simp
  simp only [Act.put, List.setIfInBounds_toArray]
  refine wpAnyH_ready (rs := [11]) (by kernel_rfl) (by simp) ?_
  refine AllReadyH.cons (o := { dst := some 55, op := Go.Op.call { callee := Go.Callee.value (Go.Operand.func 17), args := #[Go.Operand.tmp 54], argTypes := #[31] }, type := 3, pos := "law.go:72", after := #[{ on := 10, ground := Go.Ground.data }, { on := 9, ground := Go.Ground.chain }, { on := 9, ground := Go.Ground.guard }], guard := some (9, false) }) rfl (fun K hK => ?_) AllReadyH.nil
  go_simp
  refine (HL2.out _ HY1.out.1).mono ?_
  rintro e Y2 ⟨rfl, t⟩
  have HY2 : Hid (Touch (fun _ => False) w Y2 ∧ OpAt w.heap.size o Y2 ∧ OpAt W5.heap.size ra Y2 ∧ OpAt W7.heap.size rb Y2 ∧ True) := ⟨HY1.out.1.trans t, HY1.out.2.1.keep t, HY1.out.2.2.1.keep t, HY1.out.2.2.2.1.keep t, trivial⟩
  have hS2 : OpAt w.heap.size o Y2 ∧ OpAt W5.heap.size ra Y2 ∧ OpAt W7.heap.size rb Y2 ∧ True := HY2.out.2
  clear t HY1
  refine hK.out _ _ hS2 (fun hHeld => ?_)
  clear hK K hS2
  refine wpAnyH_take (i := 13) (oi := { dst := some 57, op := Go.Op.binOp Go.BinOp.neq 3 (Go.Operand.tmp 55) (Go.Operand.tmp 56) 3, type := 4, pos := "law.go:72", after := #[{ on := 11, ground := Go.Ground.data }, { on := 12, ground := Go.Ground.data }, { on := 9, ground := Go.Ground.guard }], guard := some (9, false) }) (v := .bool false) rfl (by kernel_rfl) (by kernel_rfl) (by kernel_rfl) (fun _ _ _ h => h) (Or.inl ⟨by rfl, ?_⟩) hHeld ?_
  · intro w hSw; clear hSw; go_simp
  simp only [Act.put, List.setIfInBounds_toArray]
  refine wpAnyH_take (i := 14) (oi := { dst := some 58, op := Go.Op.pick (Go.Operand.tmp 53) (Go.Operand.const (Go.Value.bool true)) (Go.Operand.tmp 57), type := 4, pos := "law.go:72", after := #[{ on := 9, ground := Go.Ground.data }, { on := 13, ground := Go.Ground.data }], guard := none }) (v := .bool false) rfl (by kernel_rfl) (by kernel_rfl) (by kernel_rfl) (fun _ _ _ h => h) (Or.inl ⟨by rfl, ?_⟩) hHeld ?_
  · intro w hSw; clear hSw; go_simp
  simp only [Act.put, List.setIfInBounds_toArray]
  refine wpAnyH_take (i := 15) (oi := { dst := some 59, op := Go.Op.move (Go.Operand.tmp 58), type := 4, pos := "law.go:72", after := #[{ on := 14, ground := Go.Ground.data }, { on := 11, ground := Go.Ground.chain }], guard := none }) (v := .bool false) rfl (by kernel_rfl) (by kernel_rfl) (by kernel_rfl) (fun _ _ _ h => h) (Or.inl ⟨by rfl, ?_⟩) hHeld ?_
  · intro w hSw; clear hSw; go_simp
  simp only [Act.put, List.setIfInBounds_toArray]
  refine wpAnyH_take (i := 16) (oi := { dst := some 60, op := Go.Op.load 31 (Go.Operand.tmp 4), type := 31, pos := "law.go:72", after := #[{ on := 15, ground := Go.Ground.guard }], guard := some (15, false) }) (v := o.val) rfl (by kernel_rfl) (by kernel_rfl) (by kernel_rfl) (fun _ _ _ h => h) (yieldsIf_load_mid (by rfl) 31 (.tmp 4) rfl w.heap.size 0 rfl o.vals.toList _ (fun w hw => rangeAt_of hw.1) Tryz.underlying31 rfl (by kernel_rfl)) hHeld ?_
  simp only [Act.put, List.setIfInBounds_toArray]
  refine wpAnyH_take (i := 18) (oi := { dst := some 62, op := Go.Op.load 31 (Go.Operand.tmp 4), type := 31, pos := "law.go:72", after := #[{ on := 15, ground := Go.Ground.guard }], guard := some (15, false) }) (v := o.val) rfl (by kernel_rfl) (by kernel_rfl) (by kernel_rfl) (fun _ _ _ h => h) (yieldsIf_load_mid (by rfl) 31 (.tmp 4) rfl w.heap.size 0 rfl o.vals.toList _ (fun w hw => rangeAt_of hw.1) Tryz.underlying31 rfl (by kernel_rfl)) hHeld ?_
  simp only [Act.put, List.setIfInBounds_toArray]
  refine wpAnyH_ready (rs := [17]) (by kernel_rfl) (by simp) ?_
  refine AllReadyH.cons (o := { dst := some 61, op := Go.Op.call { callee := Go.Callee.value (Go.Operand.func 18), args := #[Go.Operand.tmp 60], argTypes := #[31] }, type := 41, pos := "law.go:72", after := #[{ on := 16, ground := Go.Ground.data }, { on := 15, ground := Go.Ground.chain }, { on := 15, ground := Go.Ground.guard }], guard := some (15, false) }) rfl (fun K hK => ?_) AllReadyH.nil
  go_simp
  refine (HR1.out _ HY2.out.1).mono ?_
  rintro e Y3 ⟨rfl, t⟩
  have HY3 : Hid (Touch (fun _ => False) w Y3 ∧ OpAt w.heap.size o Y3 ∧ OpAt W5.heap.size ra Y3 ∧ OpAt W7.heap.size rb Y3 ∧ True) := ⟨HY2.out.1.trans t, HY2.out.2.1.keep t, HY2.out.2.2.1.keep t, HY2.out.2.2.2.1.keep t, trivial⟩
  have hS2 : OpAt w.heap.size o Y3 ∧ OpAt W5.heap.size ra Y3 ∧ OpAt W7.heap.size rb Y3 ∧ True := HY3.out.2
  clear t HY2
  refine hK.out _ _ hS2 (fun hHeld => ?_)
  clear hK K hS2
  refine wpAnyH_ready (rs := [19]) (by kernel_rfl) (by simp) ?_
  refine AllReadyH.cons (o := { dst := some 63, op := Go.Op.call { callee := Go.Callee.value (Go.Operand.func 19), args := #[Go.Operand.tmp 62], argTypes := #[31] }, type := 41, pos := "law.go:72", after := #[{ on := 18, ground := Go.Ground.data }, { on := 17, ground := Go.Ground.chain }, { on := 15, ground := Go.Ground.guard }], guard := some (15, false) }) rfl (fun K hK => ?_) AllReadyH.nil
  go_simp
  refine (HR2.out _ HY3.out.1).mono ?_
  rintro e Y4 ⟨rfl, t⟩
  have HY4 : Hid (Touch (fun _ => False) w Y4 ∧ OpAt w.heap.size o Y4 ∧ OpAt W5.heap.size ra Y4 ∧ OpAt W7.heap.size rb Y4 ∧ True) := ⟨HY3.out.1.trans t, HY3.out.2.1.keep t, HY3.out.2.2.1.keep t, HY3.out.2.2.2.1.keep t, trivial⟩
  have hS2 : OpAt w.heap.size o Y4 ∧ OpAt W5.heap.size ra Y4 ∧ OpAt W7.heap.size rb Y4 ∧ True := HY4.out.2
  clear t HY3
  refine hK.out _ _ hS2 (fun hHeld => ?_)
  clear hK K hS2
  refine wpAnyH_take (i := 20) (oi := { dst := some 64, op := Go.Op.binOp Go.BinOp.neq 41 (Go.Operand.tmp 61) (Go.Operand.tmp 63) 41, type := 4, pos := "law.go:72", after := #[{ on := 17, ground := Go.Ground.data }, { on := 19, ground := Go.Ground.data }, { on := 15, ground := Go.Ground.guard }], guard := some (15, false) }) (v := .bool false) rfl (by kernel_rfl) (by kernel_rfl) (by kernel_rfl) (fun _ _ _ h => h) (Or.inl ⟨by rfl, ?_⟩) hHeld ?_
  · intro w hSw; clear hSw; go_simp
  simp only [Act.put, List.setIfInBounds_toArray]
  refine wpAnyH_take (i := 21) (oi := { dst := some 65, op := Go.Op.pick (Go.Operand.tmp 59) (Go.Operand.const (Go.Value.bool true)) (Go.Operand.tmp 64), type := 4, pos := "law.go:72", after := #[{ on := 15, ground := Go.Ground.data }, { on := 20, ground := Go.Ground.data }], guard := none }) (v := .bool false) rfl (by kernel_rfl) (by kernel_rfl) (by kernel_rfl) (fun _ _ _ h => h) (Or.inl ⟨by rfl, ?_⟩) hHeld ?_
  · intro w hSw; clear hSw; go_simp
  simp only [Act.put, List.setIfInBounds_toArray]
  refine wpAnyH_done (by kernel_rfl) ?_ _
  try simp only [List.getElem_toArray, List.getElem_cons_succ, List.getElem_cons_zero, List.setIfInBounds_toArray, List.set_cons_succ, List.set_cons_zero]
  clear hHeld
  have hn0 := HN0.out rfl
  have HAll := HAll.out rfl
  have HAll : Hid _ := HAll
  clear HN0 HS HC1 HC2 HR1 HR2 HL2 HLn HCa HLi HKn
  by_cases hn1 : n = 1
  · have e1 : ((n : Int) == 1) = true := by rw [hn1]; rfl
    clear hn1 hn0
    go_wp2_with fail
    go_ret
    exact ⟨rfl, HY4.out.1⟩
  have e1 : ((n : Int) == 1) = false := by simp; omega
  have hn2 : 2 ≤ n := by omega
  have w1 : IntKind.i64.wrap ((n : Int) - 1) = (n : Int) - 1 := wrap_i64_small _ (by omega) (by have := HL0.out; omega)
  have HPl2 : Hid (∀ W, Touch (fun _ => False) w W → Calls Tryz.prog 20 #[.int .i64 k, .int .i64 ((n : Int) - 1)] W fun e w' => (∃ p : Nat, e = .returned (.int .i64 (p : Int)) ∧ p + 1 < n) ∧ Touch (fun _ => False) W w') := fun W _ => HPl.out W hn2
  have HL1 : Hid (n ≤ 20001) := by have := HL0.out; show _ ≤ _; omega
  clear hn0 hn1 hn2 HL0 HPl
  go_upto_region 12 with fail
  refine wp_region_lit ?_
  refine wpList_plain rfl fun K hK => ?_
  go_simp
  refine hK _ _ ?_
  clear hK K
  refine wpList_plain rfl fun K hK => ?_
  go_simp
  refine hK _ _ ?_
  clear hK K
  refine wpList_plain rfl fun K hK => ?_
  go_simp
  refine hK _ _ ?_
  clear hK K
  refine wpList_plain rfl fun K hK => ?_
  go_simp
  refine (HPl2.out _ HY4.out.1).mono ?_
  rintro e Y5 ⟨⟨p, rfl, hp⟩, t⟩
  have HY5 : Hid (Touch (fun _ => False) w Y5 ∧ OpAt w.heap.size o Y5 ∧ OpAt W5.heap.size ra Y5 ∧ OpAt W7.heap.size rb Y5 ∧ True) := ⟨HY4.out.1.trans t, HY4.out.2.1.keep t, HY4.out.2.2.1.keep t, HY4.out.2.2.2.1.keep t, trivial⟩
  obtain ⟨q, hq⟩ : ∃ q : Nat, Hid (q = p + 1) := ⟨_, Eq.refl _⟩
  have w2 : IntKind.i64.wrap (1 + (p : Int)) = (q : Int) := by rw [wrap_i64_small _ (by omega) (by have := HL1.out; omega), hq.out]; push_cast; omega
  obtain ⟨x, y, hxy⟩ := HAll.out q (by rw [hq.out]; omega) (by rw [hq.out]; exact hp)
  have HXY : Hid (TwoAll w o x y q n) := hxy
  have HX1 : Hid (∀ W, Touch (fun _ => False) w W → Calls Tryz.prog 14 #[o.val, .int .i64 0, .int .i64 (q : Int)] W fun r w' => r = .returned (.tuple #[x.val, .bool true]) ∧ Touch (fun _ => False) W w') := hxy.cx
  have HX2 : Hid (∀ W, Touch (fun _ => False) w W → Calls Tryz.prog 14 #[o.val, .int .i64 (q : Int), .int .i64 (n : Int)] W fun r w' => r = .returned (.tuple #[y.val, .bool true]) ∧ Touch (fun _ => False) W w') := hxy.cy
  clear hxy hq hp
  clear t HY4
  refine hK _ _ ?_
  clear hK K
  refine wpList_plain rfl fun K hK => ?_
  go_simp
  refine hK _ _ ?_
  clear hK K
  refine wpList_plain rfl fun K hK => ?_
  go_simp
  refine hK _ _ ?_
  clear hK K
  go_upto_region 13 with fail
  refine wp_region_lit ?_
  refine wpList_load_mid rfl 31 (.tmp 4) rfl w.heap.size 0 rfl o.vals.toList _ (rangeAt_of HY5.out.2.1) Tryz.underlying31 rfl (by kernel_rfl) ?_
  simp only [Act.put, List.setIfInBounds_toArray, List.set_cons_succ, List.set_cons_zero]
  refine wpList_plain rfl fun K hK => ?_
  go_simp
  refine hK _ _ ?_
  clear hK K
  refine wpList_plain rfl fun K hK => ?_
  go_simp
  refine (HX1.out _ HY5.out.1).mono ?_
  rintro e Y6 ⟨rfl, t⟩
  have HY6 : Hid (Touch (fun _ => False) w Y6 ∧ OpAt w.heap.size o Y6 ∧ OpAt W5.heap.size ra Y6 ∧ OpAt W7.heap.size rb Y6 ∧ True) := ⟨HY5.out.1.trans t, HY5.out.2.1.keep t, HY5.out.2.2.1.keep t, HY5.out.2.2.2.1.keep t, trivial⟩
  clear t HY5
  refine hK _ _ ?_
  clear hK K
  refine wpList_plain rfl fun K hK => ?_
  go_simp
  refine hK _ _ ?_
  clear hK K
  refine wpList_plain rfl fun K hK => ?_
  go_simp
  refine hK _ _ ?_
  clear hK K
  refine wpList_plain rfl fun K hK => ?_
  go_simp
  refine hK _ _ ?_
  clear hK K
  refine wpList_plain rfl fun K hK => ?_
  go_simp
  refine hK _ _ ?_
  clear hK K
  have hz : OpAt Y6.heap.size zeroO (Y6.alloc (.cells #[.int .u64 0, .int .u64 0, .int .i64 0, .int .u64 0, .int .u64 0, .int .u64 0, .int .u64 0, .int .u64 0, .string ⟨#[]⟩, .int .i64 0, .int .i64 0, .float .f64 0, .string ⟨#[]⟩, .string ⟨#[]⟩, .int .u64 0, .int .u64 0, .int .u64 0, .int .u64 0, .bool false, .int .u64 0, .int .u64 0, .bool false] 31)) := heap_alloc_new _ _
  refine wpList_store_mid rfl 31 (.tmp 14) (.tmp 77) rfl Y6.heap.size 0 x.vals rfl rfl (hz.there 0 22 (by decide)) (by kernel_rfl) (by kernel_rfl) ?_
  simp only [Act.put]
  obtain ⟨Y7, hW⟩ : ∃ W, Hid (W = (Y6.alloc (.cells #[.int .u64 0, .int .u64 0, .int .i64 0, .int .u64 0, .int .u64 0, .int .u64 0, .int .u64 0, .int .u64 0, .string ⟨#[]⟩, .int .i64 0, .int .i64 0, .float .f64 0, .string ⟨#[]⟩, .string ⟨#[]⟩, .int .u64 0, .int .u64 0, .int .u64 0, .int .u64 0, .bool false, .int .u64 0, .int .u64 0, .bool false] 31)).setCells Y6.heap.size 0 x.vals.toList) := ⟨_, Eq.refl _⟩
  have h9 : Touch (fun _ => False) Y6 Y7 ∧ OpAt Y6.heap.size x Y7 := by rw [hW.out]; exact ⟨((Touch.refl _ _).alloc _).stored (Nat.le_refl _) 0 _, hz.stored 0 x.vals.toList (by kernel_rfl)⟩
  have HY7 : Hid (Touch (fun _ => False) w Y7 ∧ OpAt w.heap.size o Y7 ∧ OpAt W5.heap.size ra Y7 ∧ OpAt W7.heap.size rb Y7 ∧ OpAt Y6.heap.size x Y7 ∧ True) := ⟨HY6.out.1.trans h9.1, HY6.out.2.1.keep h9.1, HY6.out.2.2.1.keep h9.1, HY6.out.2.2.2.1.keep h9.1, h9.2, trivial⟩
  rw [← hW.out]
  clear hW hz h9 HY6
  refine wpList_plain rfl fun K hK => ?_
  go_simp
  refine hK _ _ ?_
  clear hK K
  go_upto_region 14 with fail
  refine wp_region_lit ?_
  refine wpList_load_mid rfl 31 (.tmp 4) rfl w.heap.size 0 rfl o.vals.toList _ (rangeAt_of HY7.out.2.1) Tryz.underlying31 rfl (by kernel_rfl) ?_
  simp only [Act.put, List.setIfInBounds_toArray, List.set_cons_succ, List.set_cons_zero]
  refine wpList_plain rfl fun K hK => ?_
  go_simp
  refine hK _ _ ?_
  clear hK K
  refine wpList_plain rfl fun K hK => ?_
  go_simp
  refine hK _ _ ?_
  clear hK K
  refine wpList_plain rfl fun K hK => ?_
  go_simp
  refine (HX2.out _ HY7.out.1).mono ?_
  rintro e Y8 ⟨rfl, t⟩
  have HY8 : Hid (Touch (fun _ => False) w Y8 ∧ OpAt w.heap.size o Y8 ∧ OpAt W5.heap.size ra Y8 ∧ OpAt W7.heap.size rb Y8 ∧ OpAt Y6.heap.size x Y8 ∧ True) := ⟨HY7.out.1.trans t, HY7.out.2.1.keep t, HY7.out.2.2.1.keep t, HY7.out.2.2.2.1.keep t, HY7.out.2.2.2.2.1.keep t, trivial⟩
  clear t HY7
  refine hK _ _ ?_
  clear hK K
  refine wpList_plain rfl fun K hK => ?_
  go_simp
  refine hK _ _ ?_
  clear hK K
  refine wpList_plain rfl fun K hK => ?_
  go_simp
  refine hK _ _ ?_
  clear hK K
  refine wpList_plain rfl fun K hK => ?_
  go_simp
  refine hK _ _ ?_
  clear hK K
  refine wpList_plain rfl fun K hK => ?_
  go_simp
  refine hK _ _ ?_
  clear hK K
  have hz : OpAt Y8.heap.size zeroO (Y8.alloc (.cells #[.int .u64 0, .int .u64 0, .int .i64 0, .int .u64 0, .int .u64 0, .int .u64 0, .int .u64 0, .int .u64 0, .string ⟨#[]⟩, .int .i64 0, .int .i64 0, .float .f64 0, .string ⟨#[]⟩, .string ⟨#[]⟩, .int .u64 0, .int .u64 0, .int .u64 0, .int .u64 0, .bool false, .int .u64 0, .int .u64 0, .bool false] 31)) := heap_alloc_new _ _
  refine wpList_store_mid rfl 31 (.tmp 16) (.tmp 84) rfl Y8.heap.size 0 y.vals rfl rfl (hz.there 0 22 (by decide)) (by kernel_rfl) (by kernel_rfl) ?_
  simp only [Act.put]
  obtain ⟨Y9, hW⟩ : ∃ W, Hid (W = (Y8.alloc (.cells #[.int .u64 0, .int .u64 0, .int .i64 0, .int .u64 0, .int .u64 0, .int .u64 0, .int .u64 0, .int .u64 0, .string ⟨#[]⟩, .int .i64 0, .int .i64 0, .float .f64 0, .string ⟨#[]⟩, .string ⟨#[]⟩, .int .u64 0, .int .u64 0, .int .u64 0, .int .u64 0, .bool false, .int .u64 0, .int .u64 0, .bool false] 31)).setCells Y8.heap.size 0 y.vals.toList) := ⟨_, Eq.refl _⟩
  have h9 : Touch (fun _ => False) Y8 Y9 ∧ OpAt Y8.heap.size y Y9 := by rw [hW.out]; exact ⟨((Touch.refl _ _).alloc _).stored (Nat.le_refl _) 0 _, hz.stored 0 y.vals.toList (by kernel_rfl)⟩
  have HY9 : Hid (Touch (fun _ => False) w Y9 ∧ OpAt w.heap.size o Y9 ∧ OpAt W5.heap.size ra Y9 ∧ OpAt W7.heap.size rb Y9 ∧ OpAt Y6.heap.size x Y9 ∧ OpAt Y8.heap.size y Y9 ∧ True) := ⟨HY8.out.1.trans h9.1, HY8.out.2.1.keep h9.1, HY8.out.2.2.1.keep h9.1, HY8.out.2.2.2.1.keep h9.1, HY8.out.2.2.2.2.1.keep h9.1, h9.2, trivial⟩
  rw [← hW.out]
  clear hW hz h9 HY8
  refine wpList_plain rfl fun K hK => ?_
  go_simp
  refine hK _ _ ?_
  clear hK K
  have hbs2 : ∀ (x y : O) (W : World), (Instr.buildSlice 45 2 #[(0, x.val), (1, y.val)]).run Tryz.prog W = .ok (.slice (some ⟨W.heap.size, 0, none⟩) 2 2) (W.alloc (.cells (cellsP [x, y]).toArray 31)) := run_build2
  have hbs1 : ∀ (x : O) (W : World), (Instr.buildSlice 45 1 #[(0, x.val)]).run Tryz.prog W = .ok (.slice (some ⟨W.heap.size, 0, none⟩) 1 1) (W.alloc (opO x)) := run_build1
  go_upto_region 15 with fail
  have HZ0 : Hid (Touch (fun _ => False) w Y9.drew ∧ OpAt w.heap.size o Y9.drew ∧ OpAt W5.heap.size ra Y9.drew ∧ OpAt W7.heap.size rb Y9.drew ∧ OpAt Y6.heap.size x Y9.drew ∧ OpAt Y8.heap.size y Y9.drew ∧ True) := ⟨HY9.out.1.drew, HY9.out.2⟩
  clear HY9
  refine wp_region_held_drew (S := fun W' => OpAt w.heap.size o W' ∧ OpAt W5.heap.size ra W' ∧ OpAt W7.heap.size rb W' ∧ OpAt Y6.heap.size x W' ∧ OpAt Y8.heap.size y W' ∧ True) (by kernel_rfl) HZ0.out.2 (fun hHeld => ?_)
  refine wpAnyH_take (i := 0) (oi := { dst := some 86, op := Go.Op.move (Go.Operand.tmp 15), type := 4, pos := "law.go:81", after := #[], guard := none }) (v := .bool true) rfl (by kernel_rfl) (by kernel_rfl) (by kernel_rfl) (fun _ _ _ h => h) (Or.inl ⟨by rfl, ?_⟩) hHeld ?_
  · intro w hSw; clear hSw; go_simp
  simp only [Act.put, List.setIfInBounds_toArray]
  refine wpAnyH_take (i := 1) (oi := { dst := some 87, op := Go.Op.move (Go.Operand.tmp 86), type := 4, pos := "law.go:81", after := #[{ on := 0, ground := Go.Ground.data }], guard := none }) (v := .bool true) rfl (by kernel_rfl) (by kernel_rfl) (by kernel_rfl) (fun _ _ _ h => h) (Or.inl ⟨by rfl, ?_⟩) hHeld ?_
  · intro w hSw; clear hSw; go_simp
  simp only [Act.put, List.setIfInBounds_toArray]
  refine wpAnyH_take (i := 2) (oi := { dst := some 88, op := Go.Op.move (Go.Operand.tmp 17), type := 4, pos := "law.go:81", after := #[{ on := 1, ground := Go.Ground.guard }], guard := some (1, true) }) (v := .bool true) rfl (by kernel_rfl) (by kernel_rfl) (by kernel_rfl) (fun _ _ _ h => h) (Or.inl ⟨by rfl, ?_⟩) hHeld ?_
  · intro w hSw; clear hSw; go_simp
  simp only [Act.put, List.setIfInBounds_toArray]
  refine wpAnyH_take (i := 3) (oi := { dst := some 89, op := Go.Op.pick (Go.Operand.tmp 87) (Go.Operand.tmp 88) (Go.Operand.const (Go.Value.bool false)), type := 4, pos := "law.go:81", after := #[{ on := 1, ground := Go.Ground.data }, { on := 2, ground := Go.Ground.data }], guard := none }) (v := .bool true) rfl (by kernel_rfl) (by kernel_rfl) (by kernel_rfl) (fun _ _ _ h => h) (Or.inl ⟨by rfl, ?_⟩) hHeld ?_
  · intro w hSw; clear hSw; go_simp
  simp only [Act.put, List.setIfInBounds_toArray]
  refine wpAnyH_take (i := 4) (oi := { dst := some 90, op := Go.Op.move (Go.Operand.tmp 89), type := 4, pos := "law.go:81", after := #[{ on := 3, ground := Go.Ground.data }, { on := 1, ground := Go.Ground.chain }], guard := none }) (v := .bool true) rfl (by kernel_rfl) (by kernel_rfl) (by kernel_rfl) (fun _ _ _ h => h) (Or.inl ⟨by rfl, ?_⟩) hHeld ?_
  · intro w hSw; clear hSw; go_simp
  simp only [Act.put, List.setIfInBounds_toArray]
  refine wpAnyH_take (i := 5) (oi := { dst := some 91, op := Go.Op.load 31 (Go.Operand.tmp 14), type := 31, pos := "law.go:81", after := #[{ on := 4, ground := Go.Ground.guard }], guard := some (4, true) }) (v := x.val) rfl (by kernel_rfl) (by kernel_rfl) (by kernel_rfl) (fun _ _ _ h => h) (yieldsIf_load_mid (by rfl) 31 (.tmp 14) rfl (Y6.heap.size) 0 rfl x.vals.toList _ (fun w hw => rangeAt_of hw.2.2.2.1) Tryz.underlying31 rfl (by kernel_rfl)) hHeld ?_
  simp only [Act.put, List.setIfInBounds_toArray]
  refine wpAnyH_ready (rs := [6]) (by kernel_rfl) (by simp) ?_
  refine AllReadyH.cons (o := { dst := some 92, op := Go.Op.call { callee := Go.Callee.value (Go.Operand.func 11), args := #[Go.Operand.tmp 91], argTypes := #[31] }, type := 34, pos := "law.go:81", after := #[{ on := 5, ground := Go.Ground.data }, { on := 4, ground := Go.Ground.chain }, { on := 4, ground := Go.Ground.guard }], guard := some (4, true) }) rfl (fun K hK => ?_) AllReadyH.nil
  go_simp
  refine (HXY.out.kx _ HZ0.out.1).mono ?_
  rintro e Z1 ⟨rfl, t⟩
  have HZ1 : Hid (Touch (fun _ => False) w Z1 ∧ OpAt w.heap.size o Z1 ∧ OpAt W5.heap.size ra Z1 ∧ OpAt W7.heap.size rb Z1 ∧ OpAt Y6.heap.size x Z1 ∧ OpAt Y8.heap.size y Z1 ∧ True) := ⟨HZ0.out.1.trans t, HZ0.out.2.1.keep t, HZ0.out.2.2.1.keep t, HZ0.out.2.2.2.1.keep t, HZ0.out.2.2.2.2.1.keep t, HZ0.out.2.2.2.2.2.1.keep t, trivial⟩
  have hS2 : OpAt w.heap.size o Z1 ∧ OpAt W5.heap.size ra Z1 ∧ OpAt W7.heap.size rb Z1 ∧ OpAt Y6.heap.size x Z1 ∧ OpAt Y8.heap.size y Z1 ∧ True := HZ1.out.2
  clear t HZ0
  refine hK.out _ _ hS2 (fun hHeld => ?_)
  clear hK K hS2
  refine wpAnyH_take (i := 7) (oi := { dst := some 93, op := Go.Op.binOp Go.BinOp.eql 3 (Go.Operand.tmp 92) (Go.Operand.const (Go.Value.int Go.IntKind.i64 0)) 3, type := 4, pos := "law.go:81", after := #[{ on := 6, ground := Go.Ground.data }, { on := 4, ground := Go.Ground.guard }], guard := some (4, true) }) (v := .bool true) rfl (by kernel_rfl) (by kernel_rfl) (by kernel_rfl) (fun _ _ _ h => h) (Or.inl ⟨by rfl, ?_⟩) hHeld ?_
  · intro w hSw; clear hSw; go_simp
  simp only [Act.put, List.setIfInBounds_toArray]
  refine wpAnyH_take (i := 8) (oi := { dst := some 94, op := Go.Op.pick (Go.Operand.tmp 90) (Go.Operand.tmp 93) (Go.Operand.const (Go.Value.bool false)), type := 4, pos := "law.go:81", after := #[{ on := 4, ground := Go.Ground.data }, { on := 7, ground := Go.Ground.data }], guard := none }) (v := .bool true) rfl (by kernel_rfl) (by kernel_rfl) (by kernel_rfl) (fun _ _ _ h => h) (Or.inl ⟨by rfl, ?_⟩) hHeld ?_
  · intro w hSw; clear hSw; go_simp
  simp only [Act.put, List.setIfInBounds_toArray]
  refine wpAnyH_take (i := 9) (oi := { dst := some 95, op := Go.Op.move (Go.Operand.tmp 94), type := 4, pos := "law.go:81", after := #[{ on := 8, ground := Go.Ground.data }, { on := 6, ground := Go.Ground.chain }], guard := none }) (v := .bool true) rfl (by kernel_rfl) (by kernel_rfl) (by kernel_rfl) (fun _ _ _ h => h) (Or.inl ⟨by rfl, ?_⟩) hHeld ?_
  · intro w hSw; clear hSw; go_simp
  simp only [Act.put, List.setIfInBounds_toArray]
  refine wpAnyH_take (i := 10) (oi := { dst := some 96, op := Go.Op.load 31 (Go.Operand.tmp 16), type := 31, pos := "law.go:81", after := #[{ on := 9, ground := Go.Ground.guard }], guard := some (9, true) }) (v := y.val) rfl (by kernel_rfl) (by kernel_rfl) (by kernel_rfl) (fun _ _ _ h => h) (yieldsIf_load_mid (by rfl) 31 (.tmp 16) rfl (Y8.heap.size) 0 rfl y.vals.toList _ (fun w hw => rangeAt_of hw.2.2.2.2.1) Tryz.underlying31 rfl (by kernel_rfl)) hHeld ?_
  simp only [Act.put, List.setIfInBounds_toArray]
  refine wpAnyH_ready (rs := [11]) (by kernel_rfl) (by simp) ?_
  refine AllReadyH.cons (o := { dst := some 97, op := Go.Op.call { callee := Go.Callee.value (Go.Operand.func 11), args := #[Go.Operand.tmp 96], argTypes := #[31] }, type := 34, pos := "law.go:81", after := #[{ on := 10, ground := Go.Ground.data }, { on := 9, ground := Go.Ground.chain }, { on := 9, ground := Go.Ground.guard }], guard := some (9, true) }) rfl (fun K hK => ?_) AllReadyH.nil
  go_simp
  refine (HXY.out.ky _ HZ1.out.1).mono ?_
  rintro e Z2 ⟨rfl, t⟩
  have HZ2 : Hid (Touch (fun _ => False) w Z2 ∧ OpAt w.heap.size o Z2 ∧ OpAt W5.heap.size ra Z2 ∧ OpAt W7.heap.size rb Z2 ∧ OpAt Y6.heap.size x Z2 ∧ OpAt Y8.heap.size y Z2 ∧ True) := ⟨HZ1.out.1.trans t, HZ1.out.2.1.keep t, HZ1.out.2.2.1.keep t, HZ1.out.2.2.2.1.keep t, HZ1.out.2.2.2.2.1.keep t, HZ1.out.2.2.2.2.2.1.keep t, trivial⟩
  have hS2 : OpAt w.heap.size o Z2 ∧ OpAt W5.heap.size ra Z2 ∧ OpAt W7.heap.size rb Z2 ∧ OpAt Y6.heap.size x Z2 ∧ OpAt Y8.heap.size y Z2 ∧ True := HZ2.out.2
  clear t HZ1
  refine hK.out _ _ hS2 (fun hHeld => ?_)
  clear hK K hS2
  refine wpAnyH_take (i := 12) (oi := { dst := some 98, op := Go.Op.binOp Go.BinOp.eql 3 (Go.Operand.tmp 97) (Go.Operand.const (Go.Value.int Go.IntKind.i64 0)) 3, type := 4, pos := "law.go:81", after := #[{ on := 11, ground := Go.Ground.data }, { on := 9, ground := Go.Ground.guard }], guard := some (9, true) }) (v := .bool true) rfl (by kernel_rfl) (by kernel_rfl) (by kernel_rfl) (fun _ _ _ h => h) (Or.inl ⟨by rfl, ?_⟩) hHeld ?_
  · intro w hSw; clear hSw; go_simp
  simp only [Act.put, List.setIfInBounds_toArray]
  refine wpAnyH_take (i := 13) (oi := { dst := some 99, op := Go.Op.pick (Go.Operand.tmp 95) (Go.Operand.tmp 98) (Go.Operand.const (Go.Value.bool false)), type := 4, pos := "law.go:81", after := #[{ on := 9, ground := Go.Ground.data }, { on := 12, ground := Go.Ground.data }], guard := none }) (v := .bool true) rfl (by kernel_rfl) (by kernel_rfl) (by kernel_rfl) (fun _ _ _ h => h) (Or.inl ⟨by rfl, ?_⟩) hHeld ?_
  · intro w hSw; clear hSw; go_simp
  simp only [Act.put, List.setIfInBounds_toArray]
  refine wpAnyH_take (i := 14) (oi := { dst := some 100, op := Go.Op.move (Go.Operand.tmp 99), type := 4, pos := "law.go:81", after := #[{ on := 13, ground := Go.Ground.data }, { on := 11, ground := Go.Ground.chain }], guard := none }) (v := .bool true) rfl (by kernel_rfl) (by kernel_rfl) (by kernel_rfl) (fun _ _ _ h => h) (Or.inl ⟨by rfl, ?_⟩) hHeld ?_
  · intro w hSw; clear hSw; go_simp
  simp only [Act.put, List.setIfInBounds_toArray]
  refine wpAnyH_take (i := 15) (oi := { dst := some 101, op := Go.Op.load 31 (Go.Operand.tmp 14), type := 31, pos := "law.go:81", after := #[{ on := 14, ground := Go.Ground.guard }], guard := some (14, true) }) (v := x.val) rfl (by kernel_rfl) (by kernel_rfl) (by kernel_rfl) (fun _ _ _ h => h) (yieldsIf_load_mid (by rfl) 31 (.tmp 14) rfl (Y6.heap.size) 0 rfl x.vals.toList _ (fun w hw => rangeAt_of hw.2.2.2.1) Tryz.underlying31 rfl (by kernel_rfl)) hHeld ?_
  simp only [Act.put, List.setIfInBounds_toArray]
  refine wpAnyH_take (i := 16) (oi := { dst := some 102, op := Go.Op.load 31 (Go.Operand.tmp 16), type := 31, pos := "law.go:81", after := #[{ on := 14, ground := Go.Ground.guard }], guard := some (14, true) }) (v := y.val) rfl (by kernel_rfl) (by kernel_rfl) (by kernel_rfl) (fun _ _ _ h => h) (yieldsIf_load_mid (by rfl) 31 (.tmp 16) rfl (Y8.heap.size) 0 rfl y.vals.toList _ (fun w hw => rangeAt_of hw.2.2.2.2.1) Tryz.underlying31 rfl (by kernel_rfl)) hHeld ?_
  simp only [Act.put, List.setIfInBounds_toArray]
  refine wpAnyH_ready (rs := [17]) (by kernel_rfl) (by simp) ?_
  refine AllReadyH.cons (o := { dst := some 103, op := Go.Op.call { callee := Go.Callee.value (Go.Operand.func 21), args := #[Go.Operand.tmp 101, Go.Operand.tmp 102], argTypes := #[31, 31] }, type := 4, pos := "law.go:81", after := #[{ on := 15, ground := Go.Ground.data }, { on := 16, ground := Go.Ground.data }, { on := 14, ground := Go.Ground.chain }, { on := 14, ground := Go.Ground.guard }], guard := some (14, true) }) rfl (fun K hK => ?_) AllReadyH.nil
  go_simp
  refine (HXY.out.fi _ HZ2.out.1).mono ?_
  rintro e Z3 ⟨rfl, t⟩
  have HZ3 : Hid (Touch (fun _ => False) w Z3 ∧ OpAt w.heap.size o Z3 ∧ OpAt W5.heap.size ra Z3 ∧ OpAt W7.heap.size rb Z3 ∧ OpAt Y6.heap.size x Z3 ∧ OpAt Y8.heap.size y Z3 ∧ True) := ⟨HZ2.out.1.trans t, HZ2.out.2.1.keep t, HZ2.out.2.2.1.keep t, HZ2.out.2.2.2.1.keep t, HZ2.out.2.2.2.2.1.keep t, HZ2.out.2.2.2.2.2.1.keep t, trivial⟩
  have hS2 : OpAt w.heap.size o Z3 ∧ OpAt W5.heap.size ra Z3 ∧ OpAt W7.heap.size rb Z3 ∧ OpAt Y6.heap.size x Z3 ∧ OpAt Y8.heap.size y Z3 ∧ True := HZ3.out.2
  clear t HZ2
  refine hK.out _ _ hS2 (fun hHeld => ?_)
  clear hK K hS2
  refine wpAnyH_take (i := 18) (oi := { dst := some 104, op := Go.Op.pick (Go.Operand.tmp 100) (Go.Operand.tmp 103) (Go.Operand.const (Go.Value.bool false)), type := 4, pos := "law.go:81", after := #[{ on := 14, ground := Go.Ground.data }, { on := 17, ground := Go.Ground.data }], guard := none }) (v := .bool true) rfl (by kernel_rfl) (by kernel_rfl) (by kernel_rfl) (fun _ _ _ h => h) (Or.inl ⟨by rfl, ?_⟩) hHeld ?_
  · intro w hSw; clear hSw; go_simp
  simp only [Act.put, List.setIfInBounds_toArray]
  refine wpAnyH_take (i := 19) (oi := { dst := some 105, op := Go.Op.move (Go.Operand.tmp 104), type := 4, pos := "law.go:81", after := #[{ on := 18, ground := Go.Ground.data }, { on := 17, ground := Go.Ground.chain }], guard := none }) (v := .bool true) rfl (by kernel_rfl) (by kernel_rfl) (by kernel_rfl) (fun _ _ _ h => h) (Or.inl ⟨by rfl, ?_⟩) hHeld ?_
  · intro w hSw; clear hSw; go_simp
  simp only [Act.put, List.setIfInBounds_toArray]
  refine wpAnyH_take (i := 20) (oi := { dst := some 106, op := Go.Op.load 31 (Go.Operand.tmp 16), type := 31, pos := "law.go:81", after := #[{ on := 19, ground := Go.Ground.guard }], guard := some (19, true) }) (v := y.val) rfl (by kernel_rfl) (by kernel_rfl) (by kernel_rfl) (fun _ _ _ h => h) (yieldsIf_load_mid (by rfl) 31 (.tmp 16) rfl (Y8.heap.size) 0 rfl y.vals.toList _ (fun w hw => rangeAt_of hw.2.2.2.2.1) Tryz.underlying31 rfl (by kernel_rfl)) hHeld ?_
  simp only [Act.put, List.setIfInBounds_toArray]
  refine wpAnyH_take (i := 21) (oi := { dst := some 107, op := Go.Op.load 31 (Go.Operand.tmp 14), type := 31, pos := "law.go:81", after := #[{ on := 19, ground := Go.Ground.guard }], guard := some (19, true) }) (v := x.val) rfl (by kernel_rfl) (by kernel_rfl) (by kernel_rfl) (fun _ _ _ h => h) (yieldsIf_load_mid (by rfl) 31 (.tmp 14) rfl (Y6.heap.size) 0 rfl x.vals.toList _ (fun w hw => rangeAt_of hw.2.2.2.1) Tryz.underlying31 rfl (by kernel_rfl)) hHeld ?_
  simp only [Act.put, List.setIfInBounds_toArray]
  refine wpAnyH_take (i := 24) (oi := { dst := some 110, op := Go.Op.load 31 (Go.Operand.tmp 4), type := 31, pos := "law.go:81", after := #[{ on := 19, ground := Go.Ground.guard }], guard := some (19, true) }) (v := o.val) rfl (by kernel_rfl) (by kernel_rfl) (by kernel_rfl) (fun _ _ _ h => h) (yieldsIf_load_mid (by rfl) 31 (.tmp 4) rfl w.heap.size 0 rfl o.vals.toList _ (fun w hw => rangeAt_of hw.1) Tryz.underlying31 rfl (by kernel_rfl)) hHeld ?_
  simp only [Act.put, List.setIfInBounds_toArray]
  refine wpAnyH_ready (rs := [22, 25]) (by kernel_rfl) (by simp) ?_
  refine AllReadyH.cons (o := { dst := some 108, op := Go.Op.buildSlice 45 2 #[(0, Go.Operand.tmp 106), (1, Go.Operand.tmp 107)], type := 45, pos := "law.go:81", after := #[{ on := 20, ground := Go.Ground.data }, { on := 21, ground := Go.Ground.data }, { on := 19, ground := Go.Ground.guard }], guard := some (19, true) }) rfl (fun K hK => ?_) ?_
  · go_simp
    obtain ⟨A1, hW⟩ : ∃ W, Hid (W = Z3.alloc (.cells #[.int .u64 y.c, .int .u64 y.k, .int .i64 y.kind, .int .u64 y.st, .int .u64 y.lc, .int .u64 y.lk, .int .u64 y.rc, .int .u64 y.rk, .string y.tx, .int .i64 y.vk, .int .i64 y.vn, .float .f64 y.vf, .string y.vs, .string y.ky, .int .u64 y.pc, .int .u64 y.pk, .int .u64 y.fc, .int .u64 y.fk, .bool y.fa, .int .u64 y.tc, .int .u64 y.tk, .bool y.ta, .int .u64 x.c, .int .u64 x.k, .int .i64 x.kind, .int .u64 x.st, .int .u64 x.lc, .int .u64 x.lk, .int .u64 x.rc, .int .u64 x.rk, .string x.tx, .int .i64 x.vk, .int .i64 x.vn, .float .f64 x.vf, .string x.vs, .string x.ky, .int .u64 x.pc, .int .u64 x.pk, .int .u64 x.fc, .int .u64 x.fk, .bool x.fa, .int .u64 x.tc, .int .u64 x.tk, .bool x.ta] 31)) := ⟨_, Eq.refl _⟩
    have hraw : (#[.int .u64 y.c, .int .u64 y.k, .int .i64 y.kind, .int .u64 y.st, .int .u64 y.lc, .int .u64 y.lk, .int .u64 y.rc, .int .u64 y.rk, .string y.tx, .int .i64 y.vk, .int .i64 y.vn, .float .f64 y.vf, .string y.vs, .string y.ky, .int .u64 y.pc, .int .u64 y.pk, .int .u64 y.fc, .int .u64 y.fk, .bool y.fa, .int .u64 y.tc, .int .u64 y.tk, .bool y.ta, .int .u64 x.c, .int .u64 x.k, .int .i64 x.kind, .int .u64 x.st, .int .u64 x.lc, .int .u64 x.lk, .int .u64 x.rc, .int .u64 x.rk, .string x.tx, .int .i64 x.vk, .int .i64 x.vn, .float .f64 x.vf, .string x.vs, .string x.ky, .int .u64 x.pc, .int .u64 x.pk, .int .u64 x.fc, .int .u64 x.fk, .bool x.fa, .int .u64 x.tc, .int .u64 x.tk, .bool x.ta] : Array Value) = (cellsP [y, x]).toArray := by kernel_rfl
    have t : Touch (fun _ => False) Z3 A1 := by rw [hW.out]; exact (Touch.refl _ _).alloc _
    have HA1 : Hid (Touch (fun _ => False) w A1 ∧ OpAt w.heap.size o A1 ∧ OpAt W5.heap.size ra A1 ∧ OpAt W7.heap.size rb A1 ∧ OpAt Y6.heap.size x A1 ∧ OpAt Y8.heap.size y A1 ∧ True) := ⟨HZ3.out.1.trans t, HZ3.out.2.1.keep t, HZ3.out.2.2.1.keep t, HZ3.out.2.2.2.1.keep t, HZ3.out.2.2.2.2.1.keep t, HZ3.out.2.2.2.2.2.1.keep t, trivial⟩
    have HJ2 : Hid (SlP A1 (.slice (some ⟨Z3.heap.size, 0, none⟩) 2 2) [y, x]) := by rw [hW.out, hraw]; exact SlP.lit Z3 [y, x] (by simp)
    rw [← hW.out]
    have hS2 : OpAt w.heap.size o A1 ∧ OpAt W5.heap.size ra A1 ∧ OpAt W7.heap.size rb A1 ∧ OpAt Y6.heap.size x A1 ∧ OpAt Y8.heap.size y A1 ∧ True := HA1.out.2
    clear t hW hraw HZ3
    refine hK.out _ _ hS2 (fun hHeld => ?_)
    clear hK K hS2
    refine wpAnyH_ready (rs := [23, 25]) (by kernel_rfl) (by simp) ?_
    refine AllReadyH.cons (o := { dst := some 109, op := Go.Op.call { callee := Go.Callee.value (Go.Operand.func 23), args := #[Go.Operand.tmp 108], argTypes := #[45] }, type := 45, pos := "law.go:81", after := #[{ on := 22, ground := Go.Ground.data }, { on := 19, ground := Go.Ground.chain }, { on := 19, ground := Go.Ground.guard }], guard := some (19, true) }) rfl (fun K hK => ?_) ?_
    · go_simp
      refine (HXY.out.jo _ _ HA1.out.1 HJ2.out).mono ?_
      rintro e A2 ⟨ao, cp, rfl, t, hj⟩
      have HA2 : Hid (Touch (fun _ => False) w A2 ∧ OpAt w.heap.size o A2 ∧ OpAt W5.heap.size ra A2 ∧ OpAt W7.heap.size rb A2 ∧ OpAt Y6.heap.size x A2 ∧ OpAt Y8.heap.size y A2 ∧ True) := ⟨HA1.out.1.trans t, HA1.out.2.1.keep t, HA1.out.2.2.1.keep t, HA1.out.2.2.2.1.keep t, HA1.out.2.2.2.2.1.keep t, HA1.out.2.2.2.2.2.1.keep t, trivial⟩
      have HJ3 : Hid (SlP A2 (.slice ao 1 cp) [o]) := hj
      have hS2 : OpAt w.heap.size o A2 ∧ OpAt W5.heap.size ra A2 ∧ OpAt W7.heap.size rb A2 ∧ OpAt Y6.heap.size x A2 ∧ OpAt Y8.heap.size y A2 ∧ True := HA2.out.2
      clear t hj HA1
      refine hK.out _ _ hS2 (fun hHeld => ?_)
      clear hK K hS2
      refine wpAnyH_ready (rs := [25]) (by kernel_rfl) (by simp) ?_
      refine AllReadyH.cons (o := { dst := some 111, op := Go.Op.buildSlice 45 1 #[(0, Go.Operand.tmp 110)], type := 45, pos := "law.go:81", after := #[{ on := 24, ground := Go.Ground.data }, { on := 19, ground := Go.Ground.guard }], guard := some (19, true) }) rfl (fun K hK => ?_) AllReadyH.nil
      go_simp
      obtain ⟨A3, hW⟩ : ∃ W, Hid (W = A2.alloc (opO o)) := ⟨_, Eq.refl _⟩
      have t : Touch (fun _ => False) A2 A3 := by rw [hW.out]; exact (Touch.refl _ _).alloc _
      have HA3 : Hid (Touch (fun _ => False) w A3 ∧ OpAt w.heap.size o A3 ∧ OpAt W5.heap.size ra A3 ∧ OpAt W7.heap.size rb A3 ∧ OpAt Y6.heap.size x A3 ∧ OpAt Y8.heap.size y A3 ∧ True) := ⟨HA2.out.1.trans t, HA2.out.2.1.keep t, HA2.out.2.2.1.keep t, HA2.out.2.2.2.1.keep t, HA2.out.2.2.2.2.1.keep t, HA2.out.2.2.2.2.2.1.keep t, trivial⟩
      have HJ1 : Hid (SlP A3 (.slice (some ⟨A2.heap.size, 0, none⟩) 1 1) [o]) := by rw [hW.out]; exact SlP.lit1 A2 o
      have HJ3 : Hid (SlP A3 (.slice ao 1 cp) [o]) := HJ3.out.touch t
      rw [← hW.out]
      have hS2 : OpAt w.heap.size o A3 ∧ OpAt W5.heap.size ra A3 ∧ OpAt W7.heap.size rb A3 ∧ OpAt Y6.heap.size x A3 ∧ OpAt Y8.heap.size y A3 ∧ True := HA3.out.2
      clear t hW HA2
      refine hK.out _ _ hS2 (fun hHeld => ?_)
      clear hK K hS2
      refine wpAnyH_ready (rs := [26]) (by kernel_rfl) (by simp) ?_
      refine AllReadyH.cons (o := { dst := some 112, op := Go.Op.call { callee := Go.Callee.value (Go.Operand.func 22), args := #[Go.Operand.tmp 109, Go.Operand.tmp 111], argTypes := #[45, 45] }, type := 4, pos := "law.go:81", after := #[{ on := 23, ground := Go.Ground.data }, { on := 25, ground := Go.Ground.data }, { on := 23, ground := Go.Ground.chain }, { on := 19, ground := Go.Ground.guard }], guard := some (19, true) }) rfl (fun K hK => ?_) AllReadyH.nil
      go_simp
      refine (HSm.out _ _ _ HJ3.out HJ1.out).mono ?_
      rintro e A4 ⟨rfl, t⟩
      have HA4 : Hid (Touch (fun _ => False) w A4 ∧ OpAt w.heap.size o A4 ∧ OpAt W5.heap.size ra A4 ∧ OpAt W7.heap.size rb A4 ∧ OpAt Y6.heap.size x A4 ∧ OpAt Y8.heap.size y A4 ∧ True) := ⟨HA3.out.1.trans t, HA3.out.2.1.keep t, HA3.out.2.2.1.keep t, HA3.out.2.2.2.1.keep t, HA3.out.2.2.2.2.1.keep t, HA3.out.2.2.2.2.2.1.keep t, trivial⟩
      have hS2 : OpAt w.heap.size o A4 ∧ OpAt W5.heap.size ra A4 ∧ OpAt W7.heap.size rb A4 ∧ OpAt Y6.heap.size x A4 ∧ OpAt Y8.heap.size y A4 ∧ True := HA4.out.2
      clear t HA3
      refine hK.out _ _ hS2 (fun hHeld => ?_)
      clear hK K hS2
      refine wpAnyH_take (i := 27) (oi := { dst := some 113, op := Go.Op.pick (Go.Operand.tmp 105) (Go.Operand.tmp 112) (Go.Operand.const (Go.Value.bool false)), type := 4, pos := "law.go:81", after := #[{ on := 19, ground := Go.Ground.data }, { on := 26, ground := Go.Ground.data }], guard := none }) (v := .bool true) rfl (by kernel_rfl) (by kernel_rfl) (by kernel_rfl) (fun _ _ _ h => h) (Or.inl ⟨by rfl, ?_⟩) hHeld ?_
      · intro w hSw; clear hSw; go_simp
      simp only [Act.put, List.setIfInBounds_toArray]
      refine wpAnyH_take (i := 28) (oi := { dst := some 8, op := Go.Op.assign (Go.Operand.tmp 113), type := 4, pos := "law.go:81", after := #[{ on := 27, ground := Go.Ground.data }, { on := 26, ground := Go.Ground.chain }, { on := 0, ground := Go.Ground.phase }, { on := 1, ground := Go.Ground.phase }, { on := 2, ground := Go.Ground.phase }, { on := 3, ground := Go.Ground.phase }, { on := 4, ground := Go.Ground.phase }, { on := 5, ground := Go.Ground.phase }, { on := 6, ground := Go.Ground.phase }, { on := 7, ground := Go.Ground.phase }, { on := 8, ground := Go.Ground.phase }, { on := 9, ground := Go.Ground.phase }, { on := 10, ground := Go.Ground.phase }, { on := 11, ground := Go.Ground.phase }, { on := 12, ground := Go.Ground.phase }, { on := 13, ground := Go.Ground.phase }, { on := 14, ground := Go.Ground.phase }, { on := 15, ground := Go.Ground.phase }, { on := 16, ground := Go.Ground.phase }, { on := 17, ground := Go.Ground.phase }, { on := 18, ground := Go.Ground.phase }, { on := 19, ground := Go.Ground.phase }, { on := 20, ground := Go.Ground.phase }, { on := 21, ground := Go.Ground.phase }, { on := 22, ground := Go.Ground.phase }, { on := 23, ground := Go.Ground.phase }, { on := 24, ground := Go.Ground.phase }, { on := 25, ground := Go.Ground.phase }, { on := 26, ground := Go.Ground.phase }, { on := 27, ground := Go.Ground.phase }], guard := none }) (v := .bool true) rfl (by kernel_rfl) (by kernel_rfl) (by kernel_rfl) (fun _ _ _ h => h) (Or.inl ⟨by rfl, ?_⟩) hHeld ?_
      · intro w hSw; clear hSw; go_simp
      simp only [Act.put, List.setIfInBounds_toArray]
      refine wpAnyH_done (by kernel_rfl) ?_ _
      try simp only [List.getElem_toArray, List.getElem_cons_succ, List.getElem_cons_zero, List.setIfInBounds_toArray, List.set_cons_succ, List.set_cons_zero]
      clear hHeld
      go_wp2_with fail
      go_ret
      exact ⟨rfl, HA4.out.1⟩
    refine AllReadyH.cons (o := { dst := some 111, op := Go.Op.buildSlice 45 1 #[(0, Go.Operand.tmp 110)], type := 45, pos := "law.go:81", after := #[{ on := 24, ground := Go.Ground.data }, { on := 19, ground := Go.Ground.guard }], guard := some (19, true) }) rfl (fun K hK => ?_) AllReadyH.nil
    go_simp
    obtain ⟨A5, hW⟩ : ∃ W, Hid (W = A1.alloc (opO o)) := ⟨_, Eq.refl _⟩
    have t : Touch (fun _ => False) A1 A5 := by rw [hW.out]; exact (Touch.refl _ _).alloc _
    have HA5 : Hid (Touch (fun _ => False) w A5 ∧ OpAt w.heap.size o A5 ∧ OpAt W5.heap.size ra A5 ∧ OpAt W7.heap.size rb A5 ∧ OpAt Y6.heap.size x A5 ∧ OpAt Y8.heap.size y A5 ∧ True) := ⟨HA1.out.1.trans t, HA1.out.2.1.keep t, HA1.out.2.2.1.keep t, HA1.out.2.2.2.1.keep t, HA1.out.2.2.2.2.1.keep t, HA1.out.2.2.2.2.2.1.keep t, trivial⟩
    have HJ1 : Hid (SlP A5 (.slice (some ⟨A1.heap.size, 0, none⟩) 1 1) [o]) := by rw [hW.out]; exact SlP.lit1 A1 o
    have HJ2 : Hid (SlP A5 (.slice (some ⟨Z3.heap.size, 0, none⟩) 2 2) [y, x]) := HJ2.out.touch t
    rw [← hW.out]
    have hS2 : OpAt w.heap.size o A5 ∧ OpAt W5.heap.size ra A5 ∧ OpAt W7.heap.size rb A5 ∧ OpAt Y6.heap.size x A5 ∧ OpAt Y8.heap.size y A5 ∧ True := HA5.out.2
    clear t hW HA1
    refine hK.out _ _ hS2 (fun hHeld => ?_)
    clear hK K hS2
    refine wpAnyH_ready (rs := [23]) (by kernel_rfl) (by simp) ?_
    refine AllReadyH.cons (o := { dst := some 109, op := Go.Op.call { callee := Go.Callee.value (Go.Operand.func 23), args := #[Go.Operand.tmp 108], argTypes := #[45] }, type := 45, pos := "law.go:81", after := #[{ on := 22, ground := Go.Ground.data }, { on := 19, ground := Go.Ground.chain }, { on := 19, ground := Go.Ground.guard }], guard := some (19, true) }) rfl (fun K hK => ?_) AllReadyH.nil
    go_simp
    refine (HXY.out.jo _ _ HA5.out.1 HJ2.out).mono ?_
    rintro e A6 ⟨ao, cp, rfl, t, hj⟩
    have HA6 : Hid (Touch (fun _ => False) w A6 ∧ OpAt w.heap.size o A6 ∧ OpAt W5.heap.size ra A6 ∧ OpAt W7.heap.size rb A6 ∧ OpAt Y6.heap.size x A6 ∧ OpAt Y8.heap.size y A6 ∧ True) := ⟨HA5.out.1.trans t, HA5.out.2.1.keep t, HA5.out.2.2.1.keep t, HA5.out.2.2.2.1.keep t, HA5.out.2.2.2.2.1.keep t, HA5.out.2.2.2.2.2.1.keep t, trivial⟩
    have HJ3 : Hid (SlP A6 (.slice ao 1 cp) [o]) := hj
    have HJ1 : Hid (SlP A6 (.slice (some ⟨A1.heap.size, 0, none⟩) 1 1) [o]) := HJ1.out.touch t
    have hS2 : OpAt w.heap.size o A6 ∧ OpAt W5.heap.size ra A6 ∧ OpAt W7.heap.size rb A6 ∧ OpAt Y6.heap.size x A6 ∧ OpAt Y8.heap.size y A6 ∧ True := HA6.out.2
    clear t hj HA5
    refine hK.out _ _ hS2 (fun hHeld => ?_)
    clear hK K hS2
    refine wpAnyH_ready (rs := [26]) (by kernel_rfl) (by simp) ?_
    refine AllReadyH.cons (o := { dst := some 112, op := Go.Op.call { callee := Go.Callee.value (Go.Operand.func 22), args := #[Go.Operand.tmp 109, Go.Operand.tmp 111], argTypes := #[45, 45] }, type := 4, pos := "law.go:81", after := #[{ on := 23, ground := Go.Ground.data }, { on := 25, ground := Go.Ground.data }, { on := 23, ground := Go.Ground.chain }, { on := 19, ground := Go.Ground.guard }], guard := some (19, true) }) rfl (fun K hK => ?_) AllReadyH.nil
    go_simp
    refine (HSm.out _ _ _ HJ3.out HJ1.out).mono ?_
    rintro e A7 ⟨rfl, t⟩
    have HA7 : Hid (Touch (fun _ => False) w A7 ∧ OpAt w.heap.size o A7 ∧ OpAt W5.heap.size ra A7 ∧ OpAt W7.heap.size rb A7 ∧ OpAt Y6.heap.size x A7 ∧ OpAt Y8.heap.size y A7 ∧ True) := ⟨HA6.out.1.trans t, HA6.out.2.1.keep t, HA6.out.2.2.1.keep t, HA6.out.2.2.2.1.keep t, HA6.out.2.2.2.2.1.keep t, HA6.out.2.2.2.2.2.1.keep t, trivial⟩
    have hS2 : OpAt w.heap.size o A7 ∧ OpAt W5.heap.size ra A7 ∧ OpAt W7.heap.size rb A7 ∧ OpAt Y6.heap.size x A7 ∧ OpAt Y8.heap.size y A7 ∧ True := HA7.out.2
    clear t HA6
    refine hK.out _ _ hS2 (fun hHeld => ?_)
    clear hK K hS2
    refine wpAnyH_take (i := 27) (oi := { dst := some 113, op := Go.Op.pick (Go.Operand.tmp 105) (Go.Operand.tmp 112) (Go.Operand.const (Go.Value.bool false)), type := 4, pos := "law.go:81", after := #[{ on := 19, ground := Go.Ground.data }, { on := 26, ground := Go.Ground.data }], guard := none }) (v := .bool true) rfl (by kernel_rfl) (by kernel_rfl) (by kernel_rfl) (fun _ _ _ h => h) (Or.inl ⟨by rfl, ?_⟩) hHeld ?_
    · intro w hSw; clear hSw; go_simp
    simp only [Act.put, List.setIfInBounds_toArray]
    refine wpAnyH_take (i := 28) (oi := { dst := some 8, op := Go.Op.assign (Go.Operand.tmp 113), type := 4, pos := "law.go:81", after := #[{ on := 27, ground := Go.Ground.data }, { on := 26, ground := Go.Ground.chain }, { on := 0, ground := Go.Ground.phase }, { on := 1, ground := Go.Ground.phase }, { on := 2, ground := Go.Ground.phase }, { on := 3, ground := Go.Ground.phase }, { on := 4, ground := Go.Ground.phase }, { on := 5, ground := Go.Ground.phase }, { on := 6, ground := Go.Ground.phase }, { on := 7, ground := Go.Ground.phase }, { on := 8, ground := Go.Ground.phase }, { on := 9, ground := Go.Ground.phase }, { on := 10, ground := Go.Ground.phase }, { on := 11, ground := Go.Ground.phase }, { on := 12, ground := Go.Ground.phase }, { on := 13, ground := Go.Ground.phase }, { on := 14, ground := Go.Ground.phase }, { on := 15, ground := Go.Ground.phase }, { on := 16, ground := Go.Ground.phase }, { on := 17, ground := Go.Ground.phase }, { on := 18, ground := Go.Ground.phase }, { on := 19, ground := Go.Ground.phase }, { on := 20, ground := Go.Ground.phase }, { on := 21, ground := Go.Ground.phase }, { on := 22, ground := Go.Ground.phase }, { on := 23, ground := Go.Ground.phase }, { on := 24, ground := Go.Ground.phase }, { on := 25, ground := Go.Ground.phase }, { on := 26, ground := Go.Ground.phase }, { on := 27, ground := Go.Ground.phase }], guard := none }) (v := .bool true) rfl (by kernel_rfl) (by kernel_rfl) (by kernel_rfl) (fun _ _ _ h => h) (Or.inl ⟨by rfl, ?_⟩) hHeld ?_
    · intro w hSw; clear hSw; go_simp
    simp only [Act.put, List.setIfInBounds_toArray]
    refine wpAnyH_done (by kernel_rfl) ?_ _
    try simp only [List.getElem_toArray, List.getElem_cons_succ, List.getElem_cons_zero, List.setIfInBounds_toArray, List.set_cons_succ, List.set_cons_zero]
    clear hHeld
    go_wp2_with fail
    go_ret
    exact ⟨rfl, HA7.out.1⟩
  refine AllReadyH.cons (o := { dst := some 111, op := Go.Op.buildSlice 45 1 #[(0, Go.Operand.tmp 110)], type := 45, pos := "law.go:81", after := #[{ on := 24, ground := Go.Ground.data }, { on := 19, ground := Go.Ground.guard }], guard := some (19, true) }) rfl (fun K hK => ?_) AllReadyH.nil
  go_simp
  obtain ⟨B1, hW⟩ : ∃ W, Hid (W = Z3.alloc (opO o)) := ⟨_, Eq.refl _⟩
  have t : Touch (fun _ => False) Z3 B1 := by rw [hW.out]; exact (Touch.refl _ _).alloc _
  have HB1 : Hid (Touch (fun _ => False) w B1 ∧ OpAt w.heap.size o B1 ∧ OpAt W5.heap.size ra B1 ∧ OpAt W7.heap.size rb B1 ∧ OpAt Y6.heap.size x B1 ∧ OpAt Y8.heap.size y B1 ∧ True) := ⟨HZ3.out.1.trans t, HZ3.out.2.1.keep t, HZ3.out.2.2.1.keep t, HZ3.out.2.2.2.1.keep t, HZ3.out.2.2.2.2.1.keep t, HZ3.out.2.2.2.2.2.1.keep t, trivial⟩
  have HJ1 : Hid (SlP B1 (.slice (some ⟨Z3.heap.size, 0, none⟩) 1 1) [o]) := by rw [hW.out]; exact SlP.lit1 Z3 o
  rw [← hW.out]
  have hS2 : OpAt w.heap.size o B1 ∧ OpAt W5.heap.size ra B1 ∧ OpAt W7.heap.size rb B1 ∧ OpAt Y6.heap.size x B1 ∧ OpAt Y8.heap.size y B1 ∧ True := HB1.out.2
  clear t hW HZ3
  refine hK.out _ _ hS2 (fun hHeld => ?_)
  clear hK K hS2
  refine wpAnyH_ready (rs := [22]) (by kernel_rfl) (by simp) ?_
  refine AllReadyH.cons (o := { dst := some 108, op := Go.Op.buildSlice 45 2 #[(0, Go.Operand.tmp 106), (1, Go.Operand.tmp 107)], type := 45, pos := "law.go:81", after := #[{ on := 20, ground := Go.Ground.data }, { on := 21, ground := Go.Ground.data }, { on := 19, ground := Go.Ground.guard }], guard := some (19, true) }) rfl (fun K hK => ?_) AllReadyH.nil
  go_simp
  obtain ⟨B2, hW⟩ : ∃ W, Hid (W = B1.alloc (.cells #[.int .u64 y.c, .int .u64 y.k, .int .i64 y.kind, .int .u64 y.st, .int .u64 y.lc, .int .u64 y.lk, .int .u64 y.rc, .int .u64 y.rk, .string y.tx, .int .i64 y.vk, .int .i64 y.vn, .float .f64 y.vf, .string y.vs, .string y.ky, .int .u64 y.pc, .int .u64 y.pk, .int .u64 y.fc, .int .u64 y.fk, .bool y.fa, .int .u64 y.tc, .int .u64 y.tk, .bool y.ta, .int .u64 x.c, .int .u64 x.k, .int .i64 x.kind, .int .u64 x.st, .int .u64 x.lc, .int .u64 x.lk, .int .u64 x.rc, .int .u64 x.rk, .string x.tx, .int .i64 x.vk, .int .i64 x.vn, .float .f64 x.vf, .string x.vs, .string x.ky, .int .u64 x.pc, .int .u64 x.pk, .int .u64 x.fc, .int .u64 x.fk, .bool x.fa, .int .u64 x.tc, .int .u64 x.tk, .bool x.ta] 31)) := ⟨_, Eq.refl _⟩
  have hraw : (#[.int .u64 y.c, .int .u64 y.k, .int .i64 y.kind, .int .u64 y.st, .int .u64 y.lc, .int .u64 y.lk, .int .u64 y.rc, .int .u64 y.rk, .string y.tx, .int .i64 y.vk, .int .i64 y.vn, .float .f64 y.vf, .string y.vs, .string y.ky, .int .u64 y.pc, .int .u64 y.pk, .int .u64 y.fc, .int .u64 y.fk, .bool y.fa, .int .u64 y.tc, .int .u64 y.tk, .bool y.ta, .int .u64 x.c, .int .u64 x.k, .int .i64 x.kind, .int .u64 x.st, .int .u64 x.lc, .int .u64 x.lk, .int .u64 x.rc, .int .u64 x.rk, .string x.tx, .int .i64 x.vk, .int .i64 x.vn, .float .f64 x.vf, .string x.vs, .string x.ky, .int .u64 x.pc, .int .u64 x.pk, .int .u64 x.fc, .int .u64 x.fk, .bool x.fa, .int .u64 x.tc, .int .u64 x.tk, .bool x.ta] : Array Value) = (cellsP [y, x]).toArray := by kernel_rfl
  have t : Touch (fun _ => False) B1 B2 := by rw [hW.out]; exact (Touch.refl _ _).alloc _
  have HB2 : Hid (Touch (fun _ => False) w B2 ∧ OpAt w.heap.size o B2 ∧ OpAt W5.heap.size ra B2 ∧ OpAt W7.heap.size rb B2 ∧ OpAt Y6.heap.size x B2 ∧ OpAt Y8.heap.size y B2 ∧ True) := ⟨HB1.out.1.trans t, HB1.out.2.1.keep t, HB1.out.2.2.1.keep t, HB1.out.2.2.2.1.keep t, HB1.out.2.2.2.2.1.keep t, HB1.out.2.2.2.2.2.1.keep t, trivial⟩
  have HJ2 : Hid (SlP B2 (.slice (some ⟨B1.heap.size, 0, none⟩) 2 2) [y, x]) := by rw [hW.out, hraw]; exact SlP.lit B1 [y, x] (by simp)
  have HJ1 : Hid (SlP B2 (.slice (some ⟨Z3.heap.size, 0, none⟩) 1 1) [o]) := HJ1.out.touch t
  rw [← hW.out]
  have hS2 : OpAt w.heap.size o B2 ∧ OpAt W5.heap.size ra B2 ∧ OpAt W7.heap.size rb B2 ∧ OpAt Y6.heap.size x B2 ∧ OpAt Y8.heap.size y B2 ∧ True := HB2.out.2
  clear t hW hraw HB1
  refine hK.out _ _ hS2 (fun hHeld => ?_)
  clear hK K hS2
  refine wpAnyH_ready (rs := [23]) (by kernel_rfl) (by simp) ?_
  refine AllReadyH.cons (o := { dst := some 109, op := Go.Op.call { callee := Go.Callee.value (Go.Operand.func 23), args := #[Go.Operand.tmp 108], argTypes := #[45] }, type := 45, pos := "law.go:81", after := #[{ on := 22, ground := Go.Ground.data }, { on := 19, ground := Go.Ground.chain }, { on := 19, ground := Go.Ground.guard }], guard := some (19, true) }) rfl (fun K hK => ?_) AllReadyH.nil
  go_simp
  refine (HXY.out.jo _ _ HB2.out.1 HJ2.out).mono ?_
  rintro e B3 ⟨ao, cp, rfl, t, hj⟩
  have HB3 : Hid (Touch (fun _ => False) w B3 ∧ OpAt w.heap.size o B3 ∧ OpAt W5.heap.size ra B3 ∧ OpAt W7.heap.size rb B3 ∧ OpAt Y6.heap.size x B3 ∧ OpAt Y8.heap.size y B3 ∧ True) := ⟨HB2.out.1.trans t, HB2.out.2.1.keep t, HB2.out.2.2.1.keep t, HB2.out.2.2.2.1.keep t, HB2.out.2.2.2.2.1.keep t, HB2.out.2.2.2.2.2.1.keep t, trivial⟩
  have HJ3 : Hid (SlP B3 (.slice ao 1 cp) [o]) := hj
  have HJ1 : Hid (SlP B3 (.slice (some ⟨Z3.heap.size, 0, none⟩) 1 1) [o]) := HJ1.out.touch t
  have hS2 : OpAt w.heap.size o B3 ∧ OpAt W5.heap.size ra B3 ∧ OpAt W7.heap.size rb B3 ∧ OpAt Y6.heap.size x B3 ∧ OpAt Y8.heap.size y B3 ∧ True := HB3.out.2
  clear t hj HB2
  refine hK.out _ _ hS2 (fun hHeld => ?_)
  clear hK K hS2
  refine wpAnyH_ready (rs := [26]) (by kernel_rfl) (by simp) ?_
  refine AllReadyH.cons (o := { dst := some 112, op := Go.Op.call { callee := Go.Callee.value (Go.Operand.func 22), args := #[Go.Operand.tmp 109, Go.Operand.tmp 111], argTypes := #[45, 45] }, type := 4, pos := "law.go:81", after := #[{ on := 23, ground := Go.Ground.data }, { on := 25, ground := Go.Ground.data }, { on := 23, ground := Go.Ground.chain }, { on := 19, ground := Go.Ground.guard }], guard := some (19, true) }) rfl (fun K hK => ?_) AllReadyH.nil
  go_simp
  refine (HSm.out _ _ _ HJ3.out HJ1.out).mono ?_
  rintro e B4 ⟨rfl, t⟩
  have HB4 : Hid (Touch (fun _ => False) w B4 ∧ OpAt w.heap.size o B4 ∧ OpAt W5.heap.size ra B4 ∧ OpAt W7.heap.size rb B4 ∧ OpAt Y6.heap.size x B4 ∧ OpAt Y8.heap.size y B4 ∧ True) := ⟨HB3.out.1.trans t, HB3.out.2.1.keep t, HB3.out.2.2.1.keep t, HB3.out.2.2.2.1.keep t, HB3.out.2.2.2.2.1.keep t, HB3.out.2.2.2.2.2.1.keep t, trivial⟩
  have hS2 : OpAt w.heap.size o B4 ∧ OpAt W5.heap.size ra B4 ∧ OpAt W7.heap.size rb B4 ∧ OpAt Y6.heap.size x B4 ∧ OpAt Y8.heap.size y B4 ∧ True := HB4.out.2
  clear t HB3
  refine hK.out _ _ hS2 (fun hHeld => ?_)
  clear hK K hS2
  refine wpAnyH_take (i := 27) (oi := { dst := some 113, op := Go.Op.pick (Go.Operand.tmp 105) (Go.Operand.tmp 112) (Go.Operand.const (Go.Value.bool false)), type := 4, pos := "law.go:81", after := #[{ on := 19, ground := Go.Ground.data }, { on := 26, ground := Go.Ground.data }], guard := none }) (v := .bool true) rfl (by kernel_rfl) (by kernel_rfl) (by kernel_rfl) (fun _ _ _ h => h) (Or.inl ⟨by rfl, ?_⟩) hHeld ?_
  · intro w hSw; clear hSw; go_simp
  simp only [Act.put, List.setIfInBounds_toArray]
  refine wpAnyH_take (i := 28) (oi := { dst := some 8, op := Go.Op.assign (Go.Operand.tmp 113), type := 4, pos := "law.go:81", after := #[{ on := 27, ground := Go.Ground.data }, { on := 26, ground := Go.Ground.chain }, { on := 0, ground := Go.Ground.phase }, { on := 1, ground := Go.Ground.phase }, { on := 2, ground := Go.Ground.phase }, { on := 3, ground := Go.Ground.phase }, { on := 4, ground := Go.Ground.phase }, { on := 5, ground := Go.Ground.phase }, { on := 6, ground := Go.Ground.phase }, { on := 7, ground := Go.Ground.phase }, { on := 8, ground := Go.Ground.phase }, { on := 9, ground := Go.Ground.phase }, { on := 10, ground := Go.Ground.phase }, { on := 11, ground := Go.Ground.phase }, { on := 12, ground := Go.Ground.phase }, { on := 13, ground := Go.Ground.phase }, { on := 14, ground := Go.Ground.phase }, { on := 15, ground := Go.Ground.phase }, { on := 16, ground := Go.Ground.phase }, { on := 17, ground := Go.Ground.phase }, { on := 18, ground := Go.Ground.phase }, { on := 19, ground := Go.Ground.phase }, { on := 20, ground := Go.Ground.phase }, { on := 21, ground := Go.Ground.phase }, { on := 22, ground := Go.Ground.phase }, { on := 23, ground := Go.Ground.phase }, { on := 24, ground := Go.Ground.phase }, { on := 25, ground := Go.Ground.phase }, { on := 26, ground := Go.Ground.phase }, { on := 27, ground := Go.Ground.phase }], guard := none }) (v := .bool true) rfl (by kernel_rfl) (by kernel_rfl) (by kernel_rfl) (fun _ _ _ h => h) (Or.inl ⟨by rfl, ?_⟩) hHeld ?_
  · intro w hSw; clear hSw; go_simp
  simp only [Act.put, List.setIfInBounds_toArray]
  refine wpAnyH_done (by kernel_rfl) ?_ _
  try simp only [List.getElem_toArray, List.getElem_cons_succ, List.getElem_cons_zero, List.setIfInBounds_toArray, List.set_cons_succ, List.set_cons_zero]
  clear hHeld
  go_wp2_with fail
  go_ret
  exact ⟨rfl, HB4.out.1⟩
end Go.Proofs.YtmknkecaeagmbaaGreatDoor
