/- For every two numbers, and either choice, quirelaw8.OpsRows answers true: the walk. -/
import Derived.Test.YtphcnjbiojdalaaGreatDoorKnown8
import Derived.Test.YtphcnjbiojdalaaGreatDoorRJoin7
import Derived.Test.YtphcnjbiojdalaaGreatDoorPart20
import Derived.Test.YtphcnjbiojdalaaGreatDoorRngEq
import Derived.Test.YtphcnjbiojdalaaGreatDoorPart18
namespace Go.Proofs.YtphcnjbiojdalaaGreatDoor
open Go.RowKit Go.Maps
set_option linter.unusedVariables false
set_option linter.unusedSimpArgs false
set_option maxRecDepth 100000

theorem SlP.lit1p (W : World) (x : O) : SlP (W.alloc (opO x)) (.slice (some ⟨W.heap.size, 0, none⟩) 1 1) [x] := ⟨_, _, rfl, (fun h => by cases h), Nat.le_refl _, by decide, LiesP.new W x⟩
theorem SlR.one (W : World) (r : Rg) : SlR (W.alloc (rgO r)) (.slice (some ⟨W.heap.size, 0, none⟩) 1 1) [r] := ⟨_, 1, rfl, (fun h => by cases h), by simp, by omega, LiesR.new W r⟩
theorem strOf_extract (l : List UInt8) (m : Nat) : (strOf l).extract 0 m = strOf (l.take m) := by
  apply ByteArray.ext
  rw [ByteArray.data_extract]
  unfold strOf
  apply Array.ext'
  simp
theorem wp_append_runP {w w' : World} {o : Oper} {a : Act} {K : Act → World → Prop} {Q : Exit → Act → World → Prop} (s x : Operand)
    (ho : o.op = .call { callee := .builtin .append, args := #[s, x], argTypes := #[45, 45] }) (v y v' : Value) (hs : a.eval s = v) (hx : a.eval x = y)
    (hrun : (Builtin.append_ #[45, 45] o.type #[v, y]).run Tryz.prog w = .ok v' w') (h : K (a.put o.dst v') w') : o.wp Tryz.prog a w K Q := by
  unfold Oper.wp
  simp [execOp, ho, resolve, invoke, builtin, hs, hx, hrun, Result.andThen]
  exact h
/-- An operation of client 7 as the law builds it. -/
theorem p7_first (T : List Nat) : (p7 0 T).vals = #[.int .u64 7, .int .u64 1, .int .i64 1, .int .u64 0, .int .u64 0, .int .u64 0, .int .u64 0, .int .u64 0, .string (strOf (encAll T)), .int .i64 0, .int .i64 0, .float .f64 0, .string ⟨#[]⟩, .string ⟨#[]⟩, .int .u64 0, .int .u64 0, .int .u64 0, .int .u64 0, .bool false, .int .u64 0, .int .u64 0, .bool false] := by kernel_rfl
def b7 (k : Int) (tx : ByteArray) : O := { zeroO with c := 7, k := k, kind := 1, tx := tx }
theorem b7_first (T : List Nat) : b7 1 (strOf (encAll T)) = p7 0 T := by kernel_rfl
theorem b7_next (i : Nat) (h : 1 ≤ i) (T : List Nat) : { b7 (1 + (i : Int)) (strOf (encAll T)) with lc := 7, lk := (i : Int) } = p7 i T := by
  unfold p7 base7
  rw [if_neg (by omega)]
  unfold O.onward O.withT b7 a7
  simp only
  congr 1
  show (i : Int) = 1 + (i : Int) - 1
  omega
theorem OpAt.setL {W : World} {B : Nat} {x : O} (h : OpAt B x W) (c k : Int) : OpAt B { x with lc := c, lk := k } (W.setCells B 4 [.int .u64 c, .int .u64 k]) := by
  unfold OpAt at h ⊢
  have h0 := heap_setCell_same W B 4 (.int .u64 c) h
  have h1 := heap_setCell_same _ B 5 (.int .u64 k) h0
  show ((W.setCell ⟨B, 4, none⟩ (.int .u64 c)).setCell ⟨B, 5, none⟩ (.int .u64 k)).heap[B]? = _
  rw [h1]
  rfl
set_option maxHeartbeats 16000000 in
theorem opsRows_any (a0 a1 : Int) (mo : Bool) (w : World) (hU : TabsU w) : Calls Tryz.prog 8 #[.int .i64 a0, .int .i64 a1, .bool mo] w fun e w' => e = .returned (.bool true) ∧ Touch (fun _ => False) w w' := by
  have HU : Hid (TabsU w) := hU
  have HKn : Hid (∀ W, Touch (fun _ => False) w W → Calls Tryz.prog 9 #[] W fun e w' => e = .returned (.bool true) ∧ Touch (fun _ => False) W w') := fun W t => known_any W (hU.keep t)
  have HP1 : Hid (∀ W, Calls Tryz.prog 20 #[.int .i64 a0, .int .i64 9] W fun e w' => (∃ p : Nat, e = .returned (.int .i64 (p : Int)) ∧ p < 9) ∧ w' = W) := fun W => (place_in a0 9 (by omega) (by omega) W).mono (by rintro e w' ⟨⟨p, rfl, hp⟩, rfl⟩; exact ⟨⟨p, rfl, by omega⟩, rfl⟩)
  have HP2 : Hid (∀ W, Calls Tryz.prog 20 #[.int .i64 a1, .int .i64 1200] W fun e w' => (∃ p : Nat, e = .returned (.int .i64 (p : Int)) ∧ p < 1200) ∧ w' = W) := fun W => (place_in a1 1200 (by omega) (by omega) W).mono (by rintro e w' ⟨⟨p, rfl, hp⟩, rfl⟩; exact ⟨⟨p, rfl, by omega⟩, rfl⟩)
  clear hU
  go_enter Tryz.func8, Tryz.ntmps8
  go_wp2_with fail
  refine (HKn.out _ (Touch.refl _ _)).mono ?_
  rintro e W1 ⟨rfl, t1⟩
  have HT1 : Hid (Touch (fun _ => False) w W1) := t1
  clear t1 HKn
  go_wp2_with fail
  refine (HP1.out _).mono ?_
  rintro e W2 ⟨⟨p, rfl, hp⟩, hw2⟩
  rw [hw2]
  clear hw2
  obtain ⟨n, hn⟩ : ∃ n : Nat, n = 1 + p := ⟨_, rfl⟩
  have wn : IntKind.i64.wrap (1 + (p : Int)) = (n : Int) := by rw [wrap_i64_small _ (by omega) (by omega), hn]; push_cast; rfl
  have HN : Hid (1 ≤ n ∧ n ≤ 9) := by show _ ∧ _; omega
  clear hn hp
  go_wp2_with fail
  refine (HP2.out _).mono ?_
  rintro e W2 ⟨⟨q, rfl, hq⟩, hw2⟩
  rw [hw2]
  clear hw2
  obtain ⟨m, hm⟩ : ∃ m : Nat, m = 900 + q := ⟨_, rfl⟩
  have wm : IntKind.i64.wrap (900 + (q : Int)) = (m : Int) := by rw [wrap_i64_small _ (by omega) (by omega), hm]; push_cast; rfl
  have HM : Hid (900 ≤ m ∧ m ≤ 2100) := by show _ ∧ _; omega
  clear hm hq
  go_wp2_with fail
  obtain ⟨hn1, hn9⟩ := HN.out
  obtain ⟨hm1, hm2⟩ := HM.out
  clear wn wm HP1 HP2
  go_loopg [7] m (fun gk s7 wx => ∃ (k : Nat) (tx : ByteArray), gk = m - 26 * k ∧ k ≤ 100 ∧ s7 = .string tx ∧ Hid (tx = strOf (encAll (rep7 abc k)) ∧ W1 = wx))
  case atStart => exact ⟨0, ⟨#[]⟩, by omega, by omega, rfl, rfl, Eq.refl _⟩
  case round =>
    obtain ⟨k, tx, hgk, hk, rfl, HX⟩ := hrel
    have hwx := HX.out.2
    subst hwx
    have HTx : Hid (tx = strOf (encAll (rep7 abc k))) := HX.out.1
    have hsz : tx.size = 26 * k := by rw [HTx.out]; exact rep_size k
    clear HX
    by_cases hkm : 26 * k < m
    · have k1 : (tx.size : Int) < (m : Int) := by omega
      have ks : tx.size + 26 ≤ 9223372036854775807 := by omega
      have HT2 : Hid (tx ++ ⟨#[97, 98, 99, 100, 101, 102, 103, 104, 105, 106, 107, 108, 109, 110, 111, 112, 113, 114, 115, 116, 117, 118, 119, 120, 121, 122]⟩ = strOf (encAll (rep7 abc (k + 1)))) := by rw [abc_str, HTx.out, str_app, ← rep7_snoc]; exact Eq.refl _
      have hz26 : (⟨#[97, 98, 99, 100, 101, 102, 103, 104, 105, 106, 107, 108, 109, 110, 111, 112, 113, 114, 115, 116, 117, 118, 119, 120, 121, 122]⟩ : ByteArray).size = 26 := rfl
      clear hsz
      go_wp2_with fail
      go_roundg (m - 26 * (k + 1))
      case measure => omega
      case rel => exact ⟨k + 1, _, rfl, by omega, rfl, HT2.out, Eq.refl _⟩
    · have k1 : ¬ (tx.size : Int) < (m : Int) := by omega
      obtain ⟨R, hR⟩ : ∃ R, Hid (R = (rep7 abc k).take m) := ⟨_, Eq.refl _⟩
      have hRl : R.length = m := by rw [hR.out, List.length_take, rep7_len]; show min m (k * 26) = m; omega
      have HRo : Hid (∀ r ∈ R, okRune r) := fun r hr => by
        rw [hR.out] at hr
        have := rep_lt k r (List.mem_of_mem_take hr)
        exact .inl (by omega)
      have HTE : Hid (tx.extract 0 m = strOf (encAll R)) := by rw [HTx.out, strOf_extract, rep_cut, ← hR.out]; exact Eq.refl _
      have k2 : (m : Int) ≤ (tx.size : Int) := by omega
      have k3 : (0 : Int) ≤ (m : Int) := by omega
      clear hsz HTx hR hgk
      have hmul : ∀ j, j ≤ n → j * m ≤ n * m := fun j hj => Nat.mul_le_mul_right _ hj
      have hNm : n * m ≤ 18900 := Nat.mul_le_mul hn9 hm2
      have hbs : ∀ (x : O) (W : World), (Instr.buildSlice 45 1 #[(0, x.val)]).run Tryz.prog W = .ok (.slice (some ⟨W.heap.size, 0, none⟩) 1 1) (W.alloc (opO x)) := run_build1
      go_wp2_with fail
      go_loopg [8, 9, 10] n (fun gk s8 s9 s10 wx => ∃ (i z : Nat) (ao : Option Addr) (cp : Nat), i + gk = n ∧ s8 = .slice ao i cp ∧ s9 = .int .u64 (1 + (z : Int)) ∧ s10 = .int .i64 (i : Int) ∧ Hid (z = i * m) ∧ Hid (NewP W1 wx (.slice ao i cp) (rows7 R 0 i)))
      case atStart => exact ⟨0, 0, none, 0, by omega, rfl, rfl, rfl, (by show 0 = 0 * m; omega), NewP.nil _ _ (Touch.refl _ _)⟩
      case round =>
        obtain ⟨i, z, ao, cp, hig, rfl, rfl, rfl, HZ, HI⟩ := hrel
        obtain ⟨X0, hX0⟩ : ∃ X, X = wr := ⟨_, rfl⟩
        subst hX0
        by_cases hil : i < n
        · have i1 : (i : Int) < (n : Int) := by omega
          have hzb : z ≤ 18900 := by have := hmul i (by omega); have := HZ.out; omega
          have u1 : IntKind.u64.wrap (1 + (z : Int) - 1) = (z : Int) := by rw [wrap_u64_small _ (by omega) (by omega)]; omega
          have u2 : IntKind.u64.wrap (m : Int) = (m : Int) := wrap_u64_small _ (by omega) (by omega)
          have u3 : IntKind.u64.wrap (1 + (z : Int) + (m : Int)) = 1 + ((z + m : Nat) : Int) := by rw [wrap_u64_small _ (by omega) (by omega)]; push_cast; omega
          have HZ2 : Hid (z + m = (i + 1) * m) := by show _ = _; rw [Nat.succ_mul, ← HZ.out]
          go_upto_region 12 with fail
          refine wp_region_lit ?_
          refine wpList_plain rfl fun K hK => ?_
          go_simp
          refine hK _ _ ?_
          clear hK K
          refine wpList_plain rfl fun K hK => ?_
          go_simp
          refine hK _ _ ?_
          clear hK K
          refine wpList_plain rfl fun K hK => ?_
          go_simp
          refine hK _ _ ?_
          clear hK K
          refine wpList_plain rfl fun K hK => ?_
          go_simp
          refine hK _ _ ?_
          clear hK K
          refine wpList_plain rfl fun K hK => ?_
          go_simp
          refine hK _ _ ?_
          clear hK K
          refine wpList_plain rfl fun K hK => ?_
          go_simp
          refine hK _ _ ?_
          clear hK K
          refine wpList_plain rfl fun K hK => ?_
          go_simp
          refine hK _ _ ?_
          clear hK K
          have hz : OpAt X0.heap.size zeroO (X0.alloc (.cells #[.int .u64 0, .int .u64 0, .int .i64 0, .int .u64 0, .int .u64 0, .int .u64 0, .int .u64 0, .int .u64 0, .string ⟨#[]⟩, .int .i64 0, .int .i64 0, .float .f64 0, .string ⟨#[]⟩, .string ⟨#[]⟩, .int .u64 0, .int .u64 0, .int .u64 0, .int .u64 0, .bool false, .int .u64 0, .int .u64 0, .bool false] 31)) := heap_alloc_new _ _
          obtain ⟨x0, hx0⟩ : ∃ x, Hid (x = b7 (1 + (z : Int)) (tx.extract 0 m)) := ⟨_, Eq.refl _⟩
          refine wpList_store_mid rfl 31 (.tmp 11) (.tmp 40) rfl X0.heap.size 0 #[.int .u64 7, .int .u64 (1 + (z : Int)), .int .i64 1, .int .u64 0, .int .u64 0, .int .u64 0, .int .u64 0, .int .u64 0, .string (tx.extract 0 m), .int .i64 0, .int .i64 0, .float .f64 0, .string ⟨#[]⟩, .string ⟨#[]⟩, .int .u64 0, .int .u64 0, .int .u64 0, .int .u64 0, .bool false, .int .u64 0, .int .u64 0, .bool false] rfl rfl (hz.there 0 22 (by decide)) (by kernel_rfl) (by kernel_rfl) ?_
          simp only [Act.put]
          obtain ⟨X1, hW⟩ : ∃ W, Hid (W = (X0.alloc (.cells #[.int .u64 0, .int .u64 0, .int .i64 0, .int .u64 0, .int .u64 0, .int .u64 0, .int .u64 0, .int .u64 0, .string ⟨#[]⟩, .int .i64 0, .int .i64 0, .float .f64 0, .string ⟨#[]⟩, .string ⟨#[]⟩, .int .u64 0, .int .u64 0, .int .u64 0, .int .u64 0, .bool false, .int .u64 0, .int .u64 0, .bool false] 31)).setCells X0.heap.size 0 (#[.int .u64 7, .int .u64 (1 + (z : Int)), .int .i64 1, .int .u64 0, .int .u64 0, .int .u64 0, .int .u64 0, .int .u64 0, .string (tx.extract 0 m), .int .i64 0, .int .i64 0, .float .f64 0, .string ⟨#[]⟩, .string ⟨#[]⟩, .int .u64 0, .int .u64 0, .int .u64 0, .int .u64 0, .bool false, .int .u64 0, .int .u64 0, .bool false] : Array Value).toList) := ⟨_, Eq.refl _⟩
          have H1 : Hid (Touch (fun _ => False) X0 X1 ∧ OpAt X0.heap.size x0 X1) := by
            have hv : x0.vals = #[.int .u64 7, .int .u64 (1 + (z : Int)), .int .i64 1, .int .u64 0, .int .u64 0, .int .u64 0, .int .u64 0, .int .u64 0, .string (tx.extract 0 m), .int .i64 0, .int .i64 0, .float .f64 0, .string ⟨#[]⟩, .string ⟨#[]⟩, .int .u64 0, .int .u64 0, .int .u64 0, .int .u64 0, .bool false, .int .u64 0, .int .u64 0, .bool false] := by rw [hx0.out]; kernel_rfl
            rw [hW.out, ← hv]
            exact ⟨((Touch.refl _ _).alloc _).stored (Nat.le_refl _) 0 _, hz.stored 0 x0.vals.toList (by kernel_rfl)⟩
          rw [← hW.out]
          clear hW hz
          by_cases hi0 : i = 0
          · subst hi0
            have HNb : Hid (NewP W1 X1 (.slice ao 0 cp) (rows7 R 0 0)) := HI.out.on H1.out.1
            have HXE : Hid (x0 = p7 z R) := by
              have hz0 : z = 0 := by have := HZ.out; omega
              rw [hx0.out, hz0, HTE.out]
              exact b7_first R
            clear HI hx0
            obtain ⟨v5, w5, hrun, hN5, _⟩ := NewP.app1 HNb.out x0 (by rw [rows7_len]; omega)
            have HN5 : Hid (NewP W1 w5 v5 (rows7 R 0 (0 + 1))) := by
              rw [rows7_snoc, Nat.zero_add, hRl, ← HZ.out, ← HXE.out]
              exact hN5
            obtain ⟨ao5, cap5, hv5, _⟩ := hN5.shape
            rw [List.length_append, rows7_len] at hv5
            have hv6 : v5 = .slice ao5 (0 + 1) cap5 := hv5
            subst hv6
            clear hv5 hN5 HNb
            go_upto_region 15 with fail
            refine wp_region_lit ?_
            refine wpList_plain rfl fun K hK => ?_
            go_simp
            refine hK _ _ ?_
            clear hK K
            refine wpList_load_mid rfl 31 (.tmp 11) rfl X0.heap.size 0 rfl x0.vals.toList _ (rangeAt_of H1.out.2) Tryz.underlying31 rfl (by kernel_rfl) ?_
            simp only [Act.put, List.setIfInBounds_toArray, List.set_cons_succ, List.set_cons_zero]
            refine wpList_plain rfl fun K hK => ?_
            go_simp
            refine hK _ _ ?_
            clear hK K
            refine wpList_append_runP rfl _ _ rfl _ _ _ rfl rfl hrun ?_
            clear hrun
            simp only [Act.put, List.setIfInBounds_toArray, List.set_cons_succ, List.set_cons_zero]
            go_wp2_with fail
            go_roundg (n - (0 + 1))
            case measure => omega
            case rel => exact ⟨0 + 1, z + m, ao5, cap5, by omega, rfl, rfl, by go_num, HZ2.out, HN5.out⟩
          · have i2 : (0 : Int) < (i : Int) := by omega
            obtain ⟨x1, hx1⟩ : ∃ x : O, Hid (x = { x0 with lc := 7, lk := (z : Int) }) := ⟨_, Eq.refl _⟩
            go_upto_region 14 with fail
            refine wp_region_lit ?_
            refine wpList_plain rfl fun K hK => ?_
            go_simp
            refine hK _ _ ?_
            clear hK K
            refine wpList_plain rfl fun K hK => ?_
            go_simp
            refine hK _ _ ?_
            clear hK K
            refine wpList_plain rfl fun K hK => ?_
            go_simp
            refine hK _ _ ?_
            clear hK K
            refine wpList_plain rfl fun K hK => ?_
            go_simp
            refine hK _ _ ?_
            clear hK K
            refine wpList_store_mid rfl 24 (.tmp 46) (.tmp 45) rfl X0.heap.size 4 #[.int .u64 7, .int .u64 (z : Int)] rfl rfl (H1.out.2.there 4 2 (by decide)) (by kernel_rfl) (by kernel_rfl) ?_
            simp only [Act.put]
            obtain ⟨X2, hW⟩ : ∃ W, Hid (W = X1.setCells X0.heap.size 4 (#[.int .u64 7, .int .u64 (z : Int)] : Array Value).toList) := ⟨_, Eq.refl _⟩
            have H2 : Hid (Touch (fun _ => False) X0 X2 ∧ OpAt X0.heap.size x1 X2) := by
              rw [hW.out, hx1.out]
              exact ⟨H1.out.1.stored (Nat.le_refl _) 4 _, H1.out.2.setL 7 (z : Int)⟩
            rw [← hW.out]
            clear hW
            have HNb : Hid (NewP W1 X2 (.slice ao i cp) (rows7 R 0 i)) := HI.out.on H2.out.1
            have HXE : Hid (x1 = p7 z R) := by
              have hz1 : 1 ≤ z := by have := HZ.out; have := Nat.le_mul_of_pos_left m (show 0 < i by omega); omega
              rw [hx1.out, hx0.out, HTE.out]
              exact b7_next z hz1 R
            clear HI hx0 hx1 H1
            obtain ⟨v5, w5, hrun, hN5, _⟩ := NewP.app1 HNb.out x1 (by rw [rows7_len]; omega)
            have HN5 : Hid (NewP W1 w5 v5 (rows7 R 0 (i + 1))) := by
              rw [rows7_snoc, Nat.zero_add, hRl, ← HZ.out, ← HXE.out]
              exact hN5
            obtain ⟨ao5, cap5, hv5, _⟩ := hN5.shape
            rw [List.length_append, rows7_len] at hv5
            have hv6 : v5 = .slice ao5 (i + 1) cap5 := hv5
            subst hv6
            clear hv5 hN5 HNb
            go_upto_region 15 with fail
            refine wp_region_lit ?_
            refine wpList_plain rfl fun K hK => ?_
            go_simp
            refine hK _ _ ?_
            clear hK K
            refine wpList_load_mid rfl 31 (.tmp 11) rfl X0.heap.size 0 rfl x1.vals.toList _ (rangeAt_of H2.out.2) Tryz.underlying31 rfl (by kernel_rfl) ?_
            simp only [Act.put, List.setIfInBounds_toArray, List.set_cons_succ, List.set_cons_zero]
            refine wpList_plain rfl fun K hK => ?_
            go_simp
            refine hK _ _ ?_
            clear hK K
            refine wpList_append_runP rfl _ _ rfl _ _ _ rfl rfl hrun ?_
            clear hrun
            simp only [Act.put, List.setIfInBounds_toArray, List.set_cons_succ, List.set_cons_zero]
            go_wp2_with fail
            go_roundg (n - (i + 1))
            case measure => omega
            case rel => exact ⟨i + 1, z + m, ao5, cap5, by omega, rfl, rfl, by go_num, HZ2.out, HN5.out⟩
        · have i1 : ¬ (i : Int) < (n : Int) := by omega
          have hin : i = n := by omega
          subst hin
          obtain ⟨n, hnn⟩ : ∃ n, n = i := ⟨_, rfl⟩
          subst hnn
          clear HZ HTE k2 k3
          have hFl : (rep7 R n).length = n * m := by rw [rep7_len, hRl]
          have hmN : m ≤ n * m := Nat.le_mul_of_pos_left m hn1
          have HLl : Hid (SlP X0 (.slice ao n cp) (rows7 R 0 n)) := HI.out.sl
          have HTX : Hid (Touch (fun _ => False) w X0) := HT1.out.trans HI.out.touch
          have HJ0 : Hid (∀ W, Touch (fun _ => False) X0 W → Calls Tryz.prog 23 #[.slice ao n cp] W fun e w' => ∃ v', e = .returned v' ∧ NewP W w' v' (chunks 8 a7 (rep7 R n))) := fun W t => by
            have hr := rows7_row HRo.out (by omega) (by omega) n 0 (by rw [Nat.zero_add, hRl]; omega)
            rw [Nat.zero_mul] at hr
            exact join7 hr (by intro e; have := rows7_len R 0 n; rw [e] at this; simp at this; omega) (by omega) (by rw [rows7_len]; omega) _ W (HU.out.keep (HTX.out.trans t)) (HLl.out.touch t)
          have HRJ : Hid (∀ W, Touch (fun _ => False) X0 W → Calls Tryz.prog 30 #[.slice ao n cp] W fun e w' => ∃ v', e = .returned v' ∧ NewP W w' v' (chunks 8 a7 (rep7 R n))) := fun W t => rjoin7 R HRo.out (by omega) (by omega) n hn1 (by rw [Nat.succ_mul, hRl]; omega) (by omega) _ W (HLl.out.touch t)
          have HJM : Hid (∀ j, j < n → j = n / 2 → ∀ W v, Touch (fun _ => False) X0 W → SlP W v ((if j = 0 then [] else chunks 8 (base7 0) (rep7 R j)) ++ chunks 8 (base7 (j * R.length)) (rep7 R (n - j))) → Calls Tryz.prog 23 #[v] W fun e w' => ∃ v', e = .returned v' ∧ NewP W w' v' (chunks 8 a7 (rep7 R n))) := fun j hj _ W v t hv => by
            have hr := halves HRo.out (by omega) n j hn1 hj (by rw [hRl]; omega)
            refine join7 hr ?_ (by omega) ?_ v W (HU.out.keep (HTX.out.trans t)) hv
            · intro e
              have h := congrArg List.length e
              have h1 : 0 < (chunks 8 (base7 (j * R.length)) (rep7 R (n - j))).length := List.length_pos_iff.2 (chunks_ne 7 (base7 (j * R.length)) (rep7 R (n - j)))
              rw [List.length_append] at h
              simp only [List.length_nil] at h
              omega
            · rw [List.length_append]
              have h1 := chunks_len 8 (base7 (j * R.length)) (rep7 R (n - j))
              have h2 : (if j = 0 then ([] : List O) else chunks 8 (base7 0) (rep7 R j)).length ≤ 8 := by
                split
                · simp
                · exact chunks_len 8 _ _
              omega
          have HJA : Hid (∀ j, 1 ≤ j → j < n → ∀ W v, Touch (fun _ => False) X0 W → SlP W v (rows7 R 0 j) → Calls Tryz.prog 23 #[v] W fun e w' => ∃ v', e = .returned v' ∧ NewP W w' v' (chunks 8 (base7 0) (rep7 R j))) := fun j hj hjn W v t hv => by
            have hmj := hmul j (by omega)
            have hr := rows7_row HRo.out (by omega) (by omega) j 0 (by rw [Nat.zero_add, hRl]; omega)
            rw [Nat.zero_mul] at hr
            exact join7 hr (by intro e; have := rows7_len R 0 j; rw [e] at this; simp at this; omega) (by rw [rep7_len, hRl]; omega) (by rw [rows7_len]; omega) _ W (HU.out.keep (HTX.out.trans t)) hv
          have HJB : Hid (∀ j, j < n → ∀ W v, Touch (fun _ => False) X0 W → SlP W v (rows7 R j (n - j)) → Calls Tryz.prog 23 #[v] W fun e w' => ∃ v', e = .returned v' ∧ NewP W w' v' (chunks 8 (base7 (j * R.length)) (rep7 R (n - j)))) := fun j hjn W v t hv => by
            have hmj := hmul (n - j) (by omega)
            have hr := rows7_row HRo.out (by omega) (by omega) (n - j) j (by rw [show j + (n - j) = n from by omega, hRl]; omega)
            exact join7 hr (by intro e; have := rows7_len R j (n - j); rw [e] at this; simp at this; omega) (by rw [rep7_len, hRl]; omega) (by rw [rows7_len]; omega) _ W (HU.out.keep (HTX.out.trans t)) hv
          obtain ⟨F, hF⟩ : ∃ F, Hid (F = rep7 R n) := ⟨_, Eq.refl _⟩
          obtain ⟨M, hM⟩ : ∃ M, Hid (M = n * m) := ⟨_, Eq.refl _⟩
          have HFo : Hid (∀ r ∈ F, okRune r) := by rw [hF.out]; exact rep7_ok HRo.out n
          have hFM : F.length = M := by rw [hF.out, hM.out]; exact hFl
          have hM1 : 900 ≤ M ∧ M ≤ 18900 := by rw [hM.out]; omega
          have HMw : Hid (IntKind.i64.wrap ((n : Int) * (m : Int)) = (M : Int)) := by
            have : (n : Int) * (m : Int) = ((n * m : Nat) : Int) := by push_cast; rfl
            rw [this, hM.out]
            exact wrap_i64_small _ (by omega) (by omega)
          obtain ⟨J, hJ⟩ : ∃ J, Hid (J = chunks 8 a7 F) := ⟨_, Eq.refl _⟩
          rw [← hF.out, ← hJ.out] at HJ0 HRJ HJM
          have HAt : Hid (∀ i (h : i < J.length), At7 F i J[i] (min (M - 4096 * i) 4096)) := fun i h => by
            have h' : i < (chunks 8 a7 F).length := by rw [← hJ.out]; exact h
            have := at7 HFo.out (by omega) (by omega) i h'
            have e : J[i]'h = (chunks 8 a7 F)[i]'h' := List.getElem_of_eq hJ.out h
            rw [e, ← hFM]
            exact this
          have HCo : Hid (∀ i, i < J.length ↔ 4096 * i < M) := fun i => by rw [hJ.out, ← hFM]; exact chunks_count 8 0 F (by omega) (by omega) i
          have hJl : J.length ≤ 8 := by rw [hJ.out]; exact chunks_len 8 a7 F
          have hJ1 : 1 ≤ J.length := by have := (HCo.out 0).2 (by omega); omega
          clear hF hM hJ HI hFl hmN hNm
          go_wp2_with fail
          refine (HJ0.out _ (Touch.refl _ _)).mono ?_
          rintro e Y0 ⟨vJ, rfl, hNJ⟩
          have HNJ : Hid (Touch (fun _ => False) X0 Y0 ∧ SlP Y0 vJ J) := ⟨hNJ.touch, hNJ.sl⟩
          obtain ⟨aoJ, cpJ, rfl, _⟩ := hNJ.shape
          clear hNJ HJ0
          cases mo
          · obtain ⟨b, o, cJ, e9, _, _, hrow⟩ := HNJ.out.2.row (by intro e; rw [e] at hJ1; simp at hJ1)
            simp only [Value.slice.injEq] at e9
            obtain ⟨e91, _, e93⟩ := e9
            subst e91 e93
            have HRW : Hid (∀ W, Touch (fun _ => False) Y0 W → ∀ j (h : j < J.length), W.rangeAt b (o + j * 22) J[j].vals.toList) := fun W t j h i u hu => by
              have h0 := hrow j h i u hu
              have hlt := World.block_lt_of_cell? _ _ h0
              rw [World.cell?_of_block (t.block _ hlt id)]; exact h0
            clear hrow
            have wM := HMw.out
            go_wp2_with fail
            clear wM
            go_loopg [13, 14] J.length (fun gk s13 s14 wx => ∃ (i z : Nat), i + gk = J.length ∧ s13 = .int .i64 (z : Int) ∧ s14 = .int .i64 (i : Int) ∧ Hid (z = M - 4096 * i) ∧ Hid (Touch (fun _ => False) Y0 wx))
            case atStart => exact ⟨0, M, by omega, rfl, rfl, (by show M = M - 4096 * 0; omega), Touch.refl _ _⟩
            case round =>
              obtain ⟨i, z, hig, rfl, rfl, HZ, HT⟩ := hrel
              obtain ⟨Z0, hZ0⟩ : ∃ X, X = wr := ⟨_, rfl⟩
              subst hZ0
              by_cases hil : i < J.length
              · have i1 : (i : Int) < (J.length : Int) := by omega
                have i0 : (0 : Int) ≤ (i : Int) := by omega
                obtain ⟨g, hg⟩ : ∃ g : Nat, Hid (g = min z 4096) := ⟨_, Eq.refl _⟩
                have hmg : min (z : Int) 4096 = (g : Int) := by have := hg.out; omega
                have hzb : z ≤ 18900 := by have := HZ.out; omega
                have hgz : g ≤ z := by have := hg.out; omega
                have wz : IntKind.i64.wrap ((z : Int) - (g : Int)) = ((z - g : Nat) : Int) := by rw [wrap_i64_small _ (by omega) (by omega)]; omega
                obtain ⟨x, hx⟩ : ∃ x, Hid (x = J[i]'hil) := ⟨_, Eq.refl _⟩
                have HXR : Hid (∀ W, Touch (fun _ => False) Y0 W → W.rangeAt b (o + i * 22) x.vals.toList) := fun W t => by rw [hx.out]; exact HRW.out W t i hil
                have HX7 : Hid (lenO x = g ∧ (rsOf x.tx.data.toList).length = g ∧ x.tx.size ≤ 1000000) := by
                  have h7 := HAt.out i hil
                  rw [← HZ.out, ← hg.out, ← hx.out] at h7
                  exact ⟨h7.len, h7.rs, h7.size⟩
                have HL1 : Hid (∀ W, Touch (fun _ => False) w W → Calls Tryz.prog 17 #[x.val] W fun e w' => e = .returned (.int .i64 (g : Int)) ∧ Touch (fun _ => False) W w') := fun W t => by
                  have := ops_len x (by have := HX7.out.2.2; omega) W (HU.out.keep t)
                  rw [HX7.out.1] at this
                  exact this
                have HL2 : Hid (∀ W, Calls Tryz.prog 32 #[.string x.tx] W fun e w' => e = .returned (.int .i64 (g : Int)) ∧ Touch (fun _ => False) W w') := fun W => by
                  have := ref_len x.tx (by have := HX7.out.2.2; omega) W
                  rw [HX7.out.2.1] at this
                  exact this
                have HZ2 : Hid (z - g = M - 4096 * (i + 1)) := by have h1 := HZ.out; have h2 := hg.out; show _ = _; omega
                have ggn : ((g : Int) != (g : Int)) = false := by simp
                have HTw : Hid (Touch (fun _ => False) w Z0) := (HTX.out.trans HNJ.out.1).trans HT.out
                clear hg hx
                go_upto_region 25 with fail
                try rw [hmg]
                refine wp_region_lit ?_
                refine wpList_plain rfl fun K hK => ?_
                go_simp
                refine hK _ _ ?_
                clear hK K
                refine wpList_plain rfl fun K hK => ?_
                go_simp
                refine hK _ _ ?_
                clear hK K
                refine wpList_plain rfl fun K hK => ?_
                go_simp
                refine hK _ _ ?_
                clear hK K
                refine wpList_load_mid rfl 31 (.tmp 83) rfl b (o + i * 22) rfl x.vals.toList _ (HXR.out _ HT.out) Tryz.underlying31 rfl (by kernel_rfl) ?_
                simp only [Act.put, List.setIfInBounds_toArray, List.set_cons_succ, List.set_cons_zero]
                refine wpList_plain rfl fun K hK => ?_
                go_simp
                refine (HL1.out _ HTw.out).mono ?_
                rintro e Z1 ⟨rfl, t1⟩
                have HT2 : Hid (Touch (fun _ => False) Y0 Z1) := HT.out.trans t1
                have qx : Z1.cell? ⟨b, o + i * 22 + 8, none⟩ = some (.string x.tx) := HXR.out Z1 HT2.out 8 (.string x.tx) rfl
                clear t1 HT
                refine hK _ _ ?_
                clear hK K
                go_wp2_with fail
                refine (HL2.out _).mono ?_
                rintro e Z2 ⟨rfl, t2⟩
                have HT3 : Hid (Touch (fun _ => False) Y0 Z2) := HT2.out.trans t2
                clear t2 HT2 qx
                go_wp2_with fail
                go_roundg (J.length - (i + 1))
                case measure => omega
                case rel => exact ⟨i + 1, z - g, by omega, rfl, by go_num, HZ2.out, HT3.out⟩
              · have i1 : ¬ (i : Int) < (J.length : Int) := by omega
                have hiJ : i = J.length := by omega
                have hz0 : z = 0 := by
                  have h1 := HZ.out
                  have h2 := (HCo.out i)
                  have h3 : ¬ 4096 * i < M := fun h => by have := h2.2 h; omega
                  omega
                subst hz0
                clear HZ
                obtain ⟨x, hx⟩ : ∃ x, Hid (x = J[0]'(by omega)) := ⟨J[0]'(by omega), Eq.refl _⟩
                have HXR : Hid (∀ W, Touch (fun _ => False) Y0 W → W.rangeAt b o x.vals.toList) := fun W t => by
                  have := HRW.out W t 0 (by omega)
                  rw [Nat.zero_mul, Nat.add_zero] at this
                  rw [hx.out]; exact this
                obtain ⟨L0, hL0⟩ : ∃ L0 : Nat, Hid (L0 = min M 4096) := ⟨_, Eq.refl _⟩
                have hL0' : 1 ≤ L0 ∧ L0 ≤ 4096 := by have := hL0.out; omega
                have HX7 : Hid (rangeV x = rgV ⟨7, 1, 1 + (L0 : Int)⟩ ∧ x.tx.size ≤ 1000000) := by
                  have h7 := HAt.out 0 (by omega)
                  rw [← hx.out] at h7
                  have hl := h7.len
                  rw [Nat.mul_zero, Nat.sub_zero, ← hL0.out] at hl
                  have ec : x.c = 7 := by rw [h7.eq]; exact (base7_k _).2.1
                  have ek : x.k = 1 := by
                    rw [h7.eq]
                    exact (base7_k _).1.trans (by simp)
                  refine ⟨?_, h7.size⟩
                  show Value.agg #[.int .u64 x.c, .int .u64 x.k, .int .u64 (endO x)] = _
                  unfold endO
                  rw [ec, ek, hl, wrap_u64_small _ (by omega) (by omega)]
                clear hL0 hx
                obtain ⟨r, hr⟩ : ∃ r : Rg, Hid (r = ⟨7, 1, 1 + (L0 : Int)⟩) := ⟨_, Eq.refl _⟩
                rw [← hr.out] at HX7
                have HRok : Hid (r.ok = true) := by
                  show _ = true
                  rw [hr.out, Rg.ok_iff]
                  simp only
                  omega
                have HRg : Hid (∀ W, Touch (fun _ => False) w W → Calls Tryz.prog 18 #[x.val] W fun e w' => e = .returned (rgV r) ∧ Touch (fun _ => False) W w') := fun W t => by
                  have := ops_range x (by have := HX7.out.2; omega) W (HU.out.keep t)
                  rw [HX7.out.1] at this
                  exact this
                clear hr HX7
                have hJne : J ≠ [] := by intro e; rw [e] at hJ1; simp at hJ1
                have HSM : Hid (∀ W v1 v2, SlP W v1 J → SlP W v2 J → Calls Tryz.prog 22 #[v1, v2] W fun e w' => e = .returned (.bool true) ∧ Touch (fun _ => False) W w') := fun W v1 v2 h1 h2 => sameAll_any J J hJne rfl v1 v2 W h1 h2 (by omega) (fun y hy => by obtain ⟨q, hq, rfl⟩ := List.getElem_of_mem hy; exact (HAt.out q hq).vf) (fun y hy => by obtain ⟨q, hq, rfl⟩ := List.getElem_of_mem hy; exact (HAt.out q hq).vf) (fun j _ _ => same_same _)
                have HTw : Hid (Touch (fun _ => False) X0 Z0.drew ∧ Touch (fun _ => False) Y0 Z0.drew) := ⟨(HNJ.out.1.trans HT.out).drew, HT.out.drew⟩
                have hbr : ∀ (r : Rg) (W : World), (Instr.buildSlice 56 1 #[(0, rgV r)]).run Tryz.prog W = .ok (.slice (some ⟨W.heap.size, 0, none⟩) 1 1) (W.alloc (rgO r)) := fun r W => by kernel_rfl
                have j0 : (0 : Int) < (J.length : Int) := by omega
                clear HT
                go_upto_region 28 with fail
                have hS0 := HXR.out Z0.drew HTw.out.2
                refine wp_region_held_drew (S := fun W => W.rangeAt b o x.vals.toList) (by kernel_rfl) hS0 (fun hHeld => ?_)
                clear hS0
                generalize Z0.drew = Q0 at *
                refine wpAnyH_take (i := 0) (oi := { dst := some 101, op := Go.Op.move (Go.Operand.tmp 13), type := 3, pos := "law.go:182", after := #[], guard := none }) (v := .int .i64 0) rfl (by kernel_rfl) (by kernel_rfl) (by kernel_rfl) (fun _ _ _ h => h) (Or.inl ⟨by rfl, ?_⟩) hHeld ?_
                · intro w hSw; clear hSw; go_simp
                simp only [Act.put, List.setIfInBounds_toArray, List.set_cons_succ, List.set_cons_zero]
                refine wpAnyH_take (i := 1) (oi := { dst := some 102, op := Go.Op.binOp Go.BinOp.eql 3 (Go.Operand.tmp 101) (Go.Operand.const (Go.Value.int Go.IntKind.i64 0)) 3, type := 4, pos := "law.go:182", after := #[{ on := 0, ground := Go.Ground.data }], guard := none }) (v := .bool true) rfl (by kernel_rfl) (by kernel_rfl) (by kernel_rfl) (fun _ _ _ h => h) (Or.inl ⟨by rfl, ?_⟩) hHeld ?_
                · intro w hSw; clear hSw; go_simp
                simp only [Act.put, List.setIfInBounds_toArray, List.set_cons_succ, List.set_cons_zero]
                refine wpAnyH_take (i := 2) (oi := { dst := some 103, op := Go.Op.move (Go.Operand.tmp 102), type := 4, pos := "law.go:182", after := #[{ on := 1, ground := Go.Ground.data }], guard := none }) (v := .bool true) rfl (by kernel_rfl) (by kernel_rfl) (by kernel_rfl) (fun _ _ _ h => h) (Or.inl ⟨by rfl, ?_⟩) hHeld ?_
                · intro w hSw; clear hSw; go_simp
                simp only [Act.put, List.setIfInBounds_toArray, List.set_cons_succ, List.set_cons_zero]
                refine wpAnyH_take (i := 3) (oi := { dst := some 104, op := Go.Op.move (Go.Operand.tmp 12), type := 45, pos := "law.go:182", after := #[{ on := 2, ground := Go.Ground.guard }], guard := some (2, true) }) (v := .slice (some ⟨b, o, none⟩) J.length cpJ) rfl (by kernel_rfl) (by kernel_rfl) (by kernel_rfl) (fun _ _ _ h => h) (Or.inl ⟨by rfl, ?_⟩) hHeld ?_
                · intro w hSw; clear hSw; go_simp
                simp only [Act.put, List.setIfInBounds_toArray, List.set_cons_succ, List.set_cons_zero]
                refine wpAnyH_take (i := 4) (oi := { dst := some 105, op := Go.Op.move (Go.Operand.tmp 8), type := 45, pos := "law.go:182", after := #[{ on := 2, ground := Go.Ground.guard }], guard := some (2, true) }) (v := .slice ao n cp) rfl (by kernel_rfl) (by kernel_rfl) (by kernel_rfl) (fun _ _ _ h => h) (Or.inl ⟨by rfl, ?_⟩) hHeld ?_
                · intro w hSw; clear hSw; go_simp
                simp only [Act.put, List.setIfInBounds_toArray, List.set_cons_succ, List.set_cons_zero]
                refine wpAnyH_ready (rs := [5]) (by kernel_rfl) (by simp) ?_
                refine AllReadyH.cons (o := { dst := some 106, op := Go.Op.call { callee := Go.Callee.value (Go.Operand.func 30), args := #[Go.Operand.tmp 105], argTypes := #[45] }, type := 45, pos := "law.go:182", after := #[{ on := 4, ground := Go.Ground.data }, { on := 2, ground := Go.Ground.chain }, { on := 2, ground := Go.Ground.guard }], guard := some (2, true) }) rfl (fun K hK => ?_) AllReadyH.nil
                go_simp
                refine (HRJ.out _ HTw.out.1).mono ?_
                rintro e Q1 ⟨v9, rfl, hN9⟩
                have t2 := hN9.touch
                have HS9 : Hid (SlP Q1 v9 J) := hN9.sl
                obtain ⟨ao9, cp9, rfl, _⟩ := hN9.shape
                clear hN9
                have HTw2 : Hid (Touch (fun _ => False) X0 Q1 ∧ Touch (fun _ => False) Y0 Q1) := ⟨HTw.out.1.trans t2, HTw.out.2.trans t2⟩
                have hS2 := HXR.out Q1 HTw2.out.2
                clear t2 HTw
                rename Hid (Touch (fun _ => False) X0 Q1 ∧ Touch (fun _ => False) Y0 Q1) => HTw
                refine hK.out _ _ hS2 (fun hHeld => ?_)
                clear hK K hS2
                refine wpAnyH_ready (rs := [6]) (by kernel_rfl) (by simp) ?_
                refine AllReadyH.cons (o := { dst := some 107, op := Go.Op.call { callee := Go.Callee.value (Go.Operand.func 22), args := #[Go.Operand.tmp 104, Go.Operand.tmp 106], argTypes := #[45, 45] }, type := 4, pos := "law.go:182", after := #[{ on := 3, ground := Go.Ground.data }, { on := 5, ground := Go.Ground.data }, { on := 5, ground := Go.Ground.chain }, { on := 2, ground := Go.Ground.guard }], guard := some (2, true) }) rfl (fun K hK => ?_) AllReadyH.nil
                go_simp
                refine (HSM.out _ _ _ (HNJ.out.2.touch HTw.out.2) HS9.out).mono ?_
                rintro e Q2 ⟨rfl, t2⟩
                have HTw2 : Hid (Touch (fun _ => False) X0 Q2 ∧ Touch (fun _ => False) Y0 Q2) := ⟨HTw.out.1.trans t2, HTw.out.2.trans t2⟩
                have hS2 := HXR.out Q2 HTw2.out.2
                clear t2 HTw
                rename Hid (Touch (fun _ => False) X0 Q2 ∧ Touch (fun _ => False) Y0 Q2) => HTw
                refine hK.out _ _ hS2 (fun hHeld => ?_)
                clear hK K hS2
                refine wpAnyH_take (i := 7) (oi := { dst := some 108, op := Go.Op.pick (Go.Operand.tmp 103) (Go.Operand.tmp 107) (Go.Operand.const (Go.Value.bool false)), type := 4, pos := "law.go:182", after := #[{ on := 2, ground := Go.Ground.data }, { on := 6, ground := Go.Ground.data }], guard := none }) (v := .bool true) rfl (by kernel_rfl) (by kernel_rfl) (by kernel_rfl) (fun _ _ _ h => h) (Or.inl ⟨by rfl, ?_⟩) hHeld ?_
                · intro w hSw; clear hSw; go_simp
                simp only [Act.put, List.setIfInBounds_toArray, List.set_cons_succ, List.set_cons_zero]
                refine wpAnyH_take (i := 8) (oi := { dst := some 109, op := Go.Op.move (Go.Operand.tmp 108), type := 4, pos := "law.go:182", after := #[{ on := 7, ground := Go.Ground.data }, { on := 6, ground := Go.Ground.chain }], guard := none }) (v := .bool true) rfl (by kernel_rfl) (by kernel_rfl) (by kernel_rfl) (fun _ _ _ h => h) (Or.inl ⟨by rfl, ?_⟩) hHeld ?_
                · intro w hSw; clear hSw; go_simp
                simp only [Act.put, List.setIfInBounds_toArray, List.set_cons_succ, List.set_cons_zero]
                refine wpAnyH_take (i := 9) (oi := { dst := some 110, op := Go.Op.move (Go.Operand.tmp 12), type := 45, pos := "law.go:182", after := #[{ on := 8, ground := Go.Ground.guard }], guard := some (8, true) }) (v := .slice (some ⟨b, o, none⟩) J.length cpJ) rfl (by kernel_rfl) (by kernel_rfl) (by kernel_rfl) (fun _ _ _ h => h) (Or.inl ⟨by rfl, ?_⟩) hHeld ?_
                · intro w hSw; clear hSw; go_simp
                simp only [Act.put, List.setIfInBounds_toArray, List.set_cons_succ, List.set_cons_zero]
                refine wpAnyH_take (i := 10) (oi := { dst := some 111, op := Go.Op.indexAddr 45 (Go.Operand.tmp 110) (Go.Operand.const (Go.Value.int Go.IntKind.i64 0)), type := 0, pos := "law.go:182", after := #[{ on := 9, ground := Go.Ground.data }, { on := 8, ground := Go.Ground.guard }], guard := some (8, true) }) (v := .pointer (some ⟨b, o, none⟩)) rfl (by kernel_rfl) (by kernel_rfl) (by kernel_rfl) (fun _ _ _ h => h) (Or.inl ⟨by rfl, ?_⟩) hHeld ?_
                · intro w hSw; clear hSw; go_simp
                simp only [Act.put, List.setIfInBounds_toArray, List.set_cons_succ, List.set_cons_zero]
                refine wpAnyH_take (i := 11) (oi := { dst := some 112, op := Go.Op.load 31 (Go.Operand.tmp 111), type := 31, pos := "law.go:182", after := #[{ on := 10, ground := Go.Ground.data }, { on := 8, ground := Go.Ground.guard }], guard := some (8, true) }) (v := x.val) rfl (by kernel_rfl) (by kernel_rfl) (by kernel_rfl) (fun _ _ _ h => h) (yieldsIf_load_mid (by rfl) 31 (.tmp 111) rfl b o rfl x.vals.toList _ (fun w hw => hw) Tryz.underlying31 rfl (by kernel_rfl)) hHeld ?_
                simp only [Act.put, List.setIfInBounds_toArray, List.set_cons_succ, List.set_cons_zero]
                refine wpAnyH_take (i := 15) (oi := { dst := some 116, op := Go.Op.move (Go.Operand.tmp 12), type := 45, pos := "law.go:182", after := #[{ on := 8, ground := Go.Ground.guard }], guard := some (8, true) }) (v := .slice (some ⟨b, o, none⟩) J.length cpJ) rfl (by kernel_rfl) (by kernel_rfl) (by kernel_rfl) (fun _ _ _ h => h) (Or.inl ⟨by rfl, ?_⟩) hHeld ?_
                · intro w hSw; clear hSw; go_simp
                simp only [Act.put, List.setIfInBounds_toArray, List.set_cons_succ, List.set_cons_zero]
                refine wpAnyH_take (i := 16) (oi := { dst := some 117, op := Go.Op.indexAddr 45 (Go.Operand.tmp 116) (Go.Operand.const (Go.Value.int Go.IntKind.i64 0)), type := 0, pos := "law.go:182", after := #[{ on := 15, ground := Go.Ground.data }, { on := 8, ground := Go.Ground.guard }], guard := some (8, true) }) (v := .pointer (some ⟨b, o, none⟩)) rfl (by kernel_rfl) (by kernel_rfl) (by kernel_rfl) (fun _ _ _ h => h) (Or.inl ⟨by rfl, ?_⟩) hHeld ?_
                · intro w hSw; clear hSw; go_simp
                simp only [Act.put, List.setIfInBounds_toArray, List.set_cons_succ, List.set_cons_zero]
                refine wpAnyH_take (i := 17) (oi := { dst := some 118, op := Go.Op.load 31 (Go.Operand.tmp 117), type := 31, pos := "law.go:182", after := #[{ on := 16, ground := Go.Ground.data }, { on := 8, ground := Go.Ground.guard }], guard := some (8, true) }) (v := x.val) rfl (by kernel_rfl) (by kernel_rfl) (by kernel_rfl) (fun _ _ _ h => h) (yieldsIf_load_mid (by rfl) 31 (.tmp 117) rfl b o rfl x.vals.toList _ (fun w hw => hw) Tryz.underlying31 rfl (by kernel_rfl)) hHeld ?_
                simp only [Act.put, List.setIfInBounds_toArray, List.set_cons_succ, List.set_cons_zero]
                refine wpAnyH_ready (rs := [12]) (by kernel_rfl) (by simp) ?_
                refine AllReadyH.cons (o := { dst := some 113, op := Go.Op.call { callee := Go.Callee.value (Go.Operand.func 18), args := #[Go.Operand.tmp 112], argTypes := #[31] }, type := 41, pos := "law.go:182", after := #[{ on := 11, ground := Go.Ground.data }, { on := 8, ground := Go.Ground.chain }, { on := 8, ground := Go.Ground.guard }], guard := some (8, true) }) rfl (fun K hK => ?_) AllReadyH.nil
                go_simp
                refine (HRg.out _ (HTX.out.trans HTw.out.1)).mono ?_
                rintro e Q3 ⟨rfl, t2⟩
                have HTw2 : Hid (Touch (fun _ => False) X0 Q3 ∧ Touch (fun _ => False) Y0 Q3) := ⟨HTw.out.1.trans t2, HTw.out.2.trans t2⟩
                have hS2 := HXR.out Q3 HTw2.out.2
                clear t2 HTw
                rename Hid (Touch (fun _ => False) X0 Q3 ∧ Touch (fun _ => False) Y0 Q3) => HTw
                refine hK.out _ _ hS2 (fun hHeld => ?_)
                clear hK K hS2
                refine wpAnyH_ready (rs := [13]) (by kernel_rfl) (by simp) ?_
                refine AllReadyH.cons (o := { dst := some 114, op := Go.Op.buildSlice 56 1 #[(0, Go.Operand.tmp 113)], type := 56, pos := "law.go:182", after := #[{ on := 12, ground := Go.Ground.data }, { on := 8, ground := Go.Ground.guard }], guard := some (8, true) }) rfl (fun K hK => ?_) AllReadyH.nil
                go_simp
                obtain ⟨Q4, hW⟩ : ∃ W, Hid (W = Q3.alloc (rgO r)) := ⟨_, Eq.refl _⟩
                have t2 : Touch (fun _ => False) Q3 Q4 := by rw [hW.out]; exact (Touch.refl _ _).alloc _
                have HR1 : Hid (SlR Q4 (.slice (some ⟨Q3.heap.size, 0, none⟩) 1 1) [r]) := by rw [hW.out]; exact SlR.one Q3 r
                rw [← hW.out]
                clear hW
                have HTw2 : Hid (Touch (fun _ => False) X0 Q4 ∧ Touch (fun _ => False) Y0 Q4) := ⟨HTw.out.1.trans t2, HTw.out.2.trans t2⟩
                have hS2 := HXR.out Q4 HTw2.out.2
                clear t2 HTw
                rename Hid (Touch (fun _ => False) X0 Q4 ∧ Touch (fun _ => False) Y0 Q4) => HTw
                refine hK.out _ _ hS2 (fun hHeld => ?_)
                clear hK K hS2
                refine wpAnyH_ready (rs := [14]) (by kernel_rfl) (by simp) ?_
                refine AllReadyH.cons (o := { dst := some 115, op := Go.Op.call { callee := Go.Callee.value (Go.Operand.func 34), args := #[Go.Operand.tmp 114], argTypes := #[56] }, type := 56, pos := "law.go:182", after := #[{ on := 13, ground := Go.Ground.data }, { on := 12, ground := Go.Ground.chain }, { on := 8, ground := Go.Ground.guard }], guard := some (8, true) }) rfl (fun K hK => ?_) AllReadyH.nil
                go_simp
                refine (clean_one r HRok.out _ _ HR1.out).mono ?_
                rintro e Q5 ⟨v8, rfl, hN8⟩
                have t2 := hN8.touch
                have HS8 : Hid (SlR Q5 v8 [r]) := hN8.sl
                obtain ⟨ao8, cp8, e8, _⟩ := hN8.sl.shape
                have e8 : v8 = .slice ao8 1 cp8 := e8
                subst e8
                clear hN8
                have HTw2 : Hid (Touch (fun _ => False) X0 Q5 ∧ Touch (fun _ => False) Y0 Q5) := ⟨HTw.out.1.trans t2, HTw.out.2.trans t2⟩
                have hS2 := HXR.out Q5 HTw2.out.2
                clear t2 HTw
                rename Hid (Touch (fun _ => False) X0 Q5 ∧ Touch (fun _ => False) Y0 Q5) => HTw
                refine hK.out _ _ hS2 (fun hHeld => ?_)
                clear hK K hS2
                refine wpAnyH_ready (rs := [18]) (by kernel_rfl) (by simp) ?_
                refine AllReadyH.cons (o := { dst := some 119, op := Go.Op.call { callee := Go.Callee.value (Go.Operand.func 18), args := #[Go.Operand.tmp 118], argTypes := #[31] }, type := 41, pos := "law.go:182", after := #[{ on := 17, ground := Go.Ground.data }, { on := 14, ground := Go.Ground.chain }, { on := 8, ground := Go.Ground.guard }], guard := some (8, true) }) rfl (fun K hK => ?_) AllReadyH.nil
                go_simp
                refine (HRg.out _ (HTX.out.trans HTw.out.1)).mono ?_
                rintro e Q6 ⟨rfl, t2⟩
                have HTw2 : Hid (Touch (fun _ => False) X0 Q6 ∧ Touch (fun _ => False) Y0 Q6) := ⟨HTw.out.1.trans t2, HTw.out.2.trans t2⟩
                have HS8 : Hid (SlR Q6 (.slice ao8 1 cp8) [r]) := HS8.out.touch t2
                have hS2 := HXR.out Q6 HTw2.out.2
                clear t2 HTw
                rename Hid (Touch (fun _ => False) X0 Q6 ∧ Touch (fun _ => False) Y0 Q6) => HTw
                refine hK.out _ _ hS2 (fun hHeld => ?_)
                clear hK K hS2
                refine wpAnyH_ready (rs := [19]) (by kernel_rfl) (by simp) ?_
                refine AllReadyH.cons (o := { dst := some 120, op := Go.Op.buildSlice 56 1 #[(0, Go.Operand.tmp 119)], type := 56, pos := "law.go:182", after := #[{ on := 18, ground := Go.Ground.data }, { on := 8, ground := Go.Ground.guard }], guard := some (8, true) }) rfl (fun K hK => ?_) AllReadyH.nil
                go_simp
                obtain ⟨Q7, hW⟩ : ∃ W, Hid (W = Q6.alloc (rgO r)) := ⟨_, Eq.refl _⟩
                have t2 : Touch (fun _ => False) Q6 Q7 := by rw [hW.out]; exact (Touch.refl _ _).alloc _
                have HR2 : Hid (SlR Q7 (.slice (some ⟨Q6.heap.size, 0, none⟩) 1 1) [r]) := by rw [hW.out]; exact SlR.one Q6 r
                have HS8 : Hid (SlR Q7 (.slice ao8 1 cp8) [r]) := HS8.out.touch t2
                rw [← hW.out]
                clear hW
                have HTw2 : Hid (Touch (fun _ => False) X0 Q7 ∧ Touch (fun _ => False) Y0 Q7) := ⟨HTw.out.1.trans t2, HTw.out.2.trans t2⟩
                have hS2 := HXR.out Q7 HTw2.out.2
                clear t2 HTw
                rename Hid (Touch (fun _ => False) X0 Q7 ∧ Touch (fun _ => False) Y0 Q7) => HTw
                refine hK.out _ _ hS2 (fun hHeld => ?_)
                clear hK K hS2
                refine wpAnyH_ready (rs := [20]) (by kernel_rfl) (by simp) ?_
                refine AllReadyH.cons (o := { dst := some 121, op := Go.Op.call { callee := Go.Callee.value (Go.Operand.func 33), args := #[Go.Operand.tmp 115, Go.Operand.tmp 120], argTypes := #[56, 56] }, type := 4, pos := "law.go:182", after := #[{ on := 14, ground := Go.Ground.data }, { on := 19, ground := Go.Ground.data }, { on := 18, ground := Go.Ground.chain }, { on := 8, ground := Go.Ground.guard }], guard := some (8, true) }) rfl (fun K hK => ?_) AllReadyH.nil
                go_simp
                refine (rangesEq_any [r] _ _ _ HS8.out HR2.out (by simp)).mono ?_
                rintro e Q8 ⟨rfl, t2⟩
                have HTw2 : Hid (Touch (fun _ => False) X0 Q8 ∧ Touch (fun _ => False) Y0 Q8) := ⟨HTw.out.1.trans t2, HTw.out.2.trans t2⟩
                have hS2 := HXR.out Q8 HTw2.out.2
                clear t2 HTw
                rename Hid (Touch (fun _ => False) X0 Q8 ∧ Touch (fun _ => False) Y0 Q8) => HTw
                refine hK.out _ _ hS2 (fun hHeld => ?_)
                clear hK K hS2
                refine wpAnyH_take (i := 21) (oi := { dst := some 122, op := Go.Op.pick (Go.Operand.tmp 109) (Go.Operand.tmp 121) (Go.Operand.const (Go.Value.bool false)), type := 4, pos := "law.go:182", after := #[{ on := 8, ground := Go.Ground.data }, { on := 20, ground := Go.Ground.data }], guard := none }) (v := .bool true) rfl (by kernel_rfl) (by kernel_rfl) (by kernel_rfl) (fun _ _ _ h => h) (Or.inl ⟨by rfl, ?_⟩) hHeld ?_
                · intro w hSw; clear hSw; go_simp
                simp only [Act.put, List.setIfInBounds_toArray, List.set_cons_succ, List.set_cons_zero]
                refine wpAnyH_take (i := 22) (oi := { dst := some 6, op := Go.Op.assign (Go.Operand.tmp 122), type := 4, pos := "law.go:182", after := #[{ on := 21, ground := Go.Ground.data }, { on := 20, ground := Go.Ground.chain }, { on := 0, ground := Go.Ground.phase }, { on := 1, ground := Go.Ground.phase }, { on := 2, ground := Go.Ground.phase }, { on := 3, ground := Go.Ground.phase }, { on := 4, ground := Go.Ground.phase }, { on := 5, ground := Go.Ground.phase }, { on := 6, ground := Go.Ground.phase }, { on := 7, ground := Go.Ground.phase }, { on := 8, ground := Go.Ground.phase }, { on := 9, ground := Go.Ground.phase }, { on := 10, ground := Go.Ground.phase }, { on := 11, ground := Go.Ground.phase }, { on := 12, ground := Go.Ground.phase }, { on := 13, ground := Go.Ground.phase }, { on := 14, ground := Go.Ground.phase }, { on := 15, ground := Go.Ground.phase }, { on := 16, ground := Go.Ground.phase }, { on := 17, ground := Go.Ground.phase }, { on := 18, ground := Go.Ground.phase }, { on := 19, ground := Go.Ground.phase }, { on := 20, ground := Go.Ground.phase }, { on := 21, ground := Go.Ground.phase }], guard := none }) (v := .bool true) rfl (by kernel_rfl) (by kernel_rfl) (by kernel_rfl) (fun _ _ _ h => h) (Or.inl ⟨by rfl, ?_⟩) hHeld ?_
                · intro w hSw; clear hSw; go_simp
                simp only [Act.put, List.setIfInBounds_toArray, List.set_cons_succ, List.set_cons_zero]
                refine wpAnyH_done (by kernel_rfl) ?_ _
                try simp only [List.getElem_toArray, List.getElem_cons_succ, List.getElem_cons_zero, List.setIfInBounds_toArray, List.set_cons_succ, List.set_cons_zero]
                clear hHeld
                go_wp2_with fail
                go_ret
                exact ⟨rfl, HTX.out.trans HTw.out.1⟩
          · obtain ⟨j, hj⟩ : ∃ j, Hid (j = n / 2) := ⟨_, Eq.refl _⟩
            have hjn : j < n := by have := hj.out; omega
            have dj : Int.tdiv (n : Int) 2 = (j : Int) := by rw [Int.tdiv_eq_ediv_of_nonneg (by omega)]; have := hj.out; omega
            have dj2 : (n : Int) / 2 = (j : Int) := by have := hj.out; omega
            have wj : IntKind.i64.wrap (j : Int) = (j : Int) := wrap_i64_small _ (by omega) (by omega)
            have hcp : n ≤ cp := by
              obtain ⟨ao9, cp9, e9, _, h9, _⟩ := HLl.out
              simp only [Value.slice.injEq] at e9
              rw [rows7_len] at h9
              omega
            have hs1 : ∀ W, (Instr.slice 45 (.slice ao n cp) none (some (.int .i64 (j : Int))) none).run Tryz.prog W = .ok (.slice ao j cp) W := fun W => sliceP_to ao n cp j (by omega) W
            obtain ⟨aC, haC⟩ : ∃ aC, Hid (aC = if cp = j then ao else ao.map (·.add (j * 22))) := ⟨_, Eq.refl _⟩
            have hs2 : ∀ W, (Instr.slice 45 (.slice ao n cp) (some (.int .i64 (j : Int))) none none).run Tryz.prog W = .ok (.slice aC (n - j) (cp - j)) W := fun W => by rw [haC.out]; exact sliceP_from ao n cp j (by omega) W
            have HA1 : Hid (∀ W, Touch (fun _ => False) X0 W → Calls Tryz.prog 23 #[.slice ao j cp] W fun e w' => ∃ v', e = .returned v' ∧ NewP W w' v' (if j = 0 then [] else chunks 8 (base7 0) (rep7 R j))) := fun W t => by
              by_cases h0 : j = 0
              · rw [if_pos h0, h0]
                exact join_nil ao cp W
              · rw [if_neg h0]
                have := SlP.upto (HLl.out.touch t) j (by rw [rows7_len]; omega)
                rw [(rows7_take R 0 n j (by omega)).1] at this
                exact HJA.out j (by omega) hjn W _ t this
            have HA2 : Hid (∀ W, Touch (fun _ => False) X0 W → Calls Tryz.prog 23 #[.slice aC (n - j) (cp - j)] W fun e w' => ∃ v', e = .returned v' ∧ NewP W w' v' (chunks 8 (base7 (j * R.length)) (rep7 R (n - j)))) := fun W t => by
              have := SlP.from (HLl.out.touch t) j (by rw [rows7_len]; omega)
              rw [(rows7_take R 0 n j (by omega)).2, Nat.zero_add, ← haC.out] at this
              exact HJB.out j hjn W _ t this
            have HA3 := HJM.out j hjn hj.out
            have HA3 : Hid _ := HA3
            have hc8 := chunks_len 8 (base7 (j * R.length)) (rep7 R (n - j))
            have hc9 : (if j = 0 then ([] : List O) else chunks 8 (base7 0) (rep7 R j)).length ≤ 8 := by
              split
              · simp
              · exact chunks_len 8 _ _
            generalize (if j = 0 then ([] : List O) else chunks 8 (base7 0) (rep7 R j)) = A1 at *
            generalize chunks 8 (base7 (j * R.length)) (rep7 R (n - j)) = A2 at *
            clear HJM HJA HJB haC hj hcp
            go_upto_region 19 with fail
            have HTw : Hid (Touch (fun _ => False) X0 Y0.drew) := HNJ.out.1.drew
            have HTQ : Hid (Touch (fun _ => False) X0 Y0.drew) := HTw
            clear HNJ
            refine wp_region_held_drew (S := fun W => True) (by kernel_rfl) trivial (fun hHeld => ?_)
            generalize Y0.drew = Q0 at *
            refine wpAnyH_take (i := 0) (oi := { dst := some 58, op := Go.Op.move (Go.Operand.tmp 8), type := 45, pos := "law.go:172", after := #[], guard := none }) (v := .slice ao n cp) rfl (by kernel_rfl) (by kernel_rfl) (by kernel_rfl) (fun _ _ _ h => h) (Or.inl ⟨by rfl, ?_⟩) hHeld ?_
            · intro w hSw; clear hSw; go_simp
            simp only [Act.put, List.setIfInBounds_toArray, List.set_cons_succ, List.set_cons_zero]
            refine wpAnyH_take (i := 1) (oi := { dst := some 59, op := Go.Op.move (Go.Operand.tmp 0), type := 3, pos := "law.go:172", after := #[], guard := none }) (v := .int .i64 (n : Int)) rfl (by kernel_rfl) (by kernel_rfl) (by kernel_rfl) (fun _ _ _ h => h) (Or.inl ⟨by rfl, ?_⟩) hHeld ?_
            · intro w hSw; clear hSw; go_simp
            simp only [Act.put, List.setIfInBounds_toArray, List.set_cons_succ, List.set_cons_zero]
            refine wpAnyH_take (i := 2) (oi := { dst := some 60, op := Go.Op.binOp Go.BinOp.quo 3 (Go.Operand.tmp 59) (Go.Operand.const (Go.Value.int Go.IntKind.i64 2)) 3, type := 3, pos := "law.go:172", after := #[{ on := 1, ground := Go.Ground.data }], guard := none }) (v := .int .i64 (j : Int)) rfl (by kernel_rfl) (by kernel_rfl) (by kernel_rfl) (fun _ _ _ h => h) (Or.inl ⟨by rfl, ?_⟩) hHeld ?_
            · intro w hSw; clear hSw; go_simp
            simp only [Act.put, List.setIfInBounds_toArray, List.set_cons_succ, List.set_cons_zero]
            refine wpAnyH_take (i := 3) (oi := { dst := some 61, op := Go.Op.slice 45 (Go.Operand.tmp 58) none (some (Go.Operand.tmp 60)) none, type := 45, pos := "law.go:172", after := #[{ on := 0, ground := Go.Ground.data }, { on := 2, ground := Go.Ground.data }], guard := none }) (v := .slice ao j cp) rfl (by kernel_rfl) (by kernel_rfl) (by kernel_rfl) (fun _ _ _ h => h) (Or.inl ⟨by rfl, ?_⟩) hHeld ?_
            · intro w hSw; clear hSw; go_simp
            simp only [Act.put, List.setIfInBounds_toArray, List.set_cons_succ, List.set_cons_zero]
            refine wpAnyH_take (i := 5) (oi := { dst := some 63, op := Go.Op.move (Go.Operand.tmp 8), type := 45, pos := "law.go:172", after := #[], guard := none }) (v := .slice ao n cp) rfl (by kernel_rfl) (by kernel_rfl) (by kernel_rfl) (fun _ _ _ h => h) (Or.inl ⟨by rfl, ?_⟩) hHeld ?_
            · intro w hSw; clear hSw; go_simp
            simp only [Act.put, List.setIfInBounds_toArray, List.set_cons_succ, List.set_cons_zero]
            refine wpAnyH_take (i := 6) (oi := { dst := some 64, op := Go.Op.move (Go.Operand.tmp 0), type := 3, pos := "law.go:172", after := #[], guard := none }) (v := .int .i64 (n : Int)) rfl (by kernel_rfl) (by kernel_rfl) (by kernel_rfl) (fun _ _ _ h => h) (Or.inl ⟨by rfl, ?_⟩) hHeld ?_
            · intro w hSw; clear hSw; go_simp
            simp only [Act.put, List.setIfInBounds_toArray, List.set_cons_succ, List.set_cons_zero]
            refine wpAnyH_take (i := 7) (oi := { dst := some 65, op := Go.Op.binOp Go.BinOp.quo 3 (Go.Operand.tmp 64) (Go.Operand.const (Go.Value.int Go.IntKind.i64 2)) 3, type := 3, pos := "law.go:172", after := #[{ on := 6, ground := Go.Ground.data }], guard := none }) (v := .int .i64 (j : Int)) rfl (by kernel_rfl) (by kernel_rfl) (by kernel_rfl) (fun _ _ _ h => h) (Or.inl ⟨by rfl, ?_⟩) hHeld ?_
            · intro w hSw; clear hSw; go_simp
            simp only [Act.put, List.setIfInBounds_toArray, List.set_cons_succ, List.set_cons_zero]
            refine wpAnyH_take (i := 8) (oi := { dst := some 66, op := Go.Op.slice 45 (Go.Operand.tmp 63) (some (Go.Operand.tmp 65)) none none, type := 45, pos := "law.go:172", after := #[{ on := 5, ground := Go.Ground.data }, { on := 7, ground := Go.Ground.data }], guard := none }) (v := .slice aC (n - j) (cp - j)) rfl (by kernel_rfl) (by kernel_rfl) (by kernel_rfl) (fun _ _ _ h => h) (Or.inl ⟨by rfl, ?_⟩) hHeld ?_
            · intro w hSw; clear hSw; go_simp
            simp only [Act.put, List.setIfInBounds_toArray, List.set_cons_succ, List.set_cons_zero]
            refine wpAnyH_ready (rs := [4]) (by kernel_rfl) (by simp) ?_
            refine AllReadyH.cons (o := { dst := some 62, op := Go.Op.call { callee := Go.Callee.value (Go.Operand.func 23), args := #[Go.Operand.tmp 61], argTypes := #[45] }, type := 45, pos := "law.go:172", after := #[{ on := 3, ground := Go.Ground.data }], guard := none }) rfl (fun K hK => ?_) AllReadyH.nil
            go_simp
            refine (HA1.out _ HTw.out).mono ?_
            rintro e Q1 ⟨v1, rfl, hN1⟩
            have t2 := hN1.touch
            have HN1 : Hid (NewP Q0 Q1 v1 A1) := hN1
            obtain ⟨ao1, cp1, rfl, _⟩ := hN1.shape
            clear hN1
            have HTw2 : Hid (Touch (fun _ => False) X0 Q1) := HTw.out.trans t2
            have hS2 : True := trivial
            clear t2 HTw
            rename Hid (Touch (fun _ => False) X0 Q1) => HTw
            refine hK.out _ _ hS2 (fun hHeld => ?_)
            clear hK K hS2
            refine wpAnyH_ready (rs := [9]) (by kernel_rfl) (by simp) ?_
            refine AllReadyH.cons (o := { dst := some 67, op := Go.Op.call { callee := Go.Callee.value (Go.Operand.func 23), args := #[Go.Operand.tmp 66], argTypes := #[45] }, type := 45, pos := "law.go:172", after := #[{ on := 8, ground := Go.Ground.data }, { on := 4, ground := Go.Ground.chain }], guard := none }) rfl (fun K hK => ?_) AllReadyH.nil
            go_simp
            refine (HA2.out _ HTw.out).mono ?_
            rintro e Q2 ⟨v2, rfl, hN2⟩
            have t2 := hN2.touch
            have HN1 : Hid (NewP Q0 Q2 (.slice ao1 A1.length cp1) A1) := HN1.out.on t2
            have HN2 : Hid (SlP Q2 v2 A2) := hN2.sl
            obtain ⟨ao2, cp2, rfl, _⟩ := hN2.shape
            clear hN2
            have HTw2 : Hid (Touch (fun _ => False) X0 Q2) := HTw.out.trans t2
            have hS2 : True := trivial
            clear t2 HTw
            rename Hid (Touch (fun _ => False) X0 Q2) => HTw
            refine hK.out _ _ hS2 (fun hHeld => ?_)
            clear hK K hS2
            have hap := NewP.app HN1.out
            have hno2 : ao2 = none → cp2 = 0 := by
              obtain ⟨ao9, cp9, e9, h9, _⟩ := HN2.out.shape
              simp only [Value.slice.injEq] at e9
              rw [e9.1, e9.2.2]; exact h9
            have hL2 : LiesP Q2 ao2 A2 := by
              obtain ⟨ao9, cp9, e9, h1, h2, h3, h4⟩ := HN2.out
              simp only [Value.slice.injEq] at e9
              rw [e9.1]; exact h4
            obtain ⟨v4, w4, hrun, hN4, _⟩ := hap ao2 A2.length cp2 A2 rfl hno2 hL2 (by omega)
            have HN4 : Hid (SlP w4 v4 (A1 ++ A2)) := hN4.sl
            have HT4 : Hid (Touch (fun _ => False) X0 w4) := HTQ.out.trans hN4.touch
            obtain ⟨ao4, cp4, rfl, _⟩ := hN4.shape
            rw [List.length_append] at hrun HN4
            clear hap hN4 hno2 hL2 HN1 HN2 HTw
            refine wpAnyH_ready (rs := [10]) (by kernel_rfl) (by simp) ?_
            refine AllReadyH.cons (o := { dst := some 68, op := Go.Op.call { callee := Go.Callee.builtin Go.Builtin.append, args := #[Go.Operand.tmp 62, Go.Operand.tmp 67], argTypes := #[45, 45] }, type := 45, pos := "law.go:172", after := #[{ on := 4, ground := Go.Ground.data }, { on := 9, ground := Go.Ground.data }, { on := 9, ground := Go.Ground.chain }], guard := none }) rfl (fun K hK => ?_) AllReadyH.nil
            refine ite_of_pos (by kernel_rfl) ?_
            refine wp_append_runP _ _ rfl _ _ _ rfl rfl hrun ?_
            clear hrun
            have hS2 : True := trivial
            refine hK.out _ _ hS2 (fun hHeld => ?_)
            clear hK K hS2
            simp only [Act.put, List.setIfInBounds_toArray, List.set_cons_succ, List.set_cons_zero]
            refine wpAnyH_ready (rs := [11]) (by kernel_rfl) (by simp) ?_
            refine AllReadyH.cons (o := { dst := some 69, op := Go.Op.call { callee := Go.Callee.value (Go.Operand.func 23), args := #[Go.Operand.tmp 68], argTypes := #[45] }, type := 45, pos := "law.go:172", after := #[{ on := 10, ground := Go.Ground.data }, { on := 10, ground := Go.Ground.chain }], guard := none }) rfl (fun K hK => ?_) AllReadyH.nil
            go_simp
            refine (HA3.out _ _ HT4.out HN4.out).mono ?_
            rintro e Y9 ⟨v9, rfl, hN9⟩
            have HNJ : Hid (Touch (fun _ => False) X0 Y9 ∧ SlP Y9 v9 J) := ⟨HT4.out.trans hN9.touch, hN9.sl⟩
            obtain ⟨ao9, cp9, rfl, _⟩ := hN9.shape
            have hS2 : True := trivial
            clear hN9 HT4 HN4
            refine hK.out _ _ hS2 (fun hHeld => ?_)
            clear hK K hS2
            refine wpAnyH_take (i := 12) (oi := { dst := some 12, op := Go.Op.assign (Go.Operand.tmp 69), type := 45, pos := "law.go:172", after := #[{ on := 11, ground := Go.Ground.data }, { on := 11, ground := Go.Ground.chain }, { on := 0, ground := Go.Ground.phase }, { on := 1, ground := Go.Ground.phase }, { on := 2, ground := Go.Ground.phase }, { on := 3, ground := Go.Ground.phase }, { on := 4, ground := Go.Ground.phase }, { on := 5, ground := Go.Ground.phase }, { on := 6, ground := Go.Ground.phase }, { on := 7, ground := Go.Ground.phase }, { on := 8, ground := Go.Ground.phase }, { on := 9, ground := Go.Ground.phase }, { on := 10, ground := Go.Ground.phase }, { on := 11, ground := Go.Ground.phase }], guard := none }) (v := .slice ao9 J.length cp9) rfl (by kernel_rfl) (by kernel_rfl) (by kernel_rfl) (fun _ _ _ h => h) (Or.inl ⟨by rfl, ?_⟩) hHeld ?_
            · intro w hSw; clear hSw; go_simp
            simp only [Act.put, List.setIfInBounds_toArray, List.set_cons_succ, List.set_cons_zero]
            refine wpAnyH_done (by kernel_rfl) ?_ _
            try simp only [List.getElem_toArray, List.getElem_cons_succ, List.getElem_cons_zero, List.setIfInBounds_toArray, List.set_cons_succ, List.set_cons_zero]
            clear hHeld
            obtain ⟨b, o, cJ, e9, _, _, hrow⟩ := HNJ.out.2.row (by intro e; rw [e] at hJ1; simp at hJ1)
            simp only [Value.slice.injEq] at e9
            obtain ⟨e91, _, e93⟩ := e9
            subst e91 e93
            have HRW : Hid (∀ W, Touch (fun _ => False) Y9 W → ∀ j (h : j < J.length), W.rangeAt b (o + j * 22) J[j].vals.toList) := fun W t j h i u hu => by
              have h0 := hrow j h i u hu
              have hlt := World.block_lt_of_cell? _ _ h0
              rw [World.cell?_of_block (t.block _ hlt id)]; exact h0
            clear hrow
            have wM := HMw.out
            go_wp2_with fail
            clear wM
            go_loopg [13, 14] J.length (fun gk s13 s14 wx => ∃ (i z : Nat), i + gk = J.length ∧ s13 = .int .i64 (z : Int) ∧ s14 = .int .i64 (i : Int) ∧ Hid (z = M - 4096 * i) ∧ Hid (Touch (fun _ => False) Y9 wx))
            case atStart => exact ⟨0, M, by omega, rfl, rfl, (by show M = M - 4096 * 0; omega), Touch.refl _ _⟩
            case round =>
              obtain ⟨i, z, hig, rfl, rfl, HZ, HT⟩ := hrel
              obtain ⟨Z0, hZ0⟩ : ∃ X, X = wr := ⟨_, rfl⟩
              subst hZ0
              by_cases hil : i < J.length
              · have i1 : (i : Int) < (J.length : Int) := by omega
                have i0 : (0 : Int) ≤ (i : Int) := by omega
                obtain ⟨g, hg⟩ : ∃ g : Nat, Hid (g = min z 4096) := ⟨_, Eq.refl _⟩
                have hmg : min (z : Int) 4096 = (g : Int) := by have := hg.out; omega
                have hzb : z ≤ 18900 := by have := HZ.out; omega
                have hgz : g ≤ z := by have := hg.out; omega
                have wz : IntKind.i64.wrap ((z : Int) - (g : Int)) = ((z - g : Nat) : Int) := by rw [wrap_i64_small _ (by omega) (by omega)]; omega
                obtain ⟨x, hx⟩ : ∃ x, Hid (x = J[i]'hil) := ⟨_, Eq.refl _⟩
                have HXR : Hid (∀ W, Touch (fun _ => False) Y9 W → W.rangeAt b (o + i * 22) x.vals.toList) := fun W t => by rw [hx.out]; exact HRW.out W t i hil
                have HX7 : Hid (lenO x = g ∧ (rsOf x.tx.data.toList).length = g ∧ x.tx.size ≤ 1000000) := by
                  have h7 := HAt.out i hil
                  rw [← HZ.out, ← hg.out, ← hx.out] at h7
                  exact ⟨h7.len, h7.rs, h7.size⟩
                have HL1 : Hid (∀ W, Touch (fun _ => False) w W → Calls Tryz.prog 17 #[x.val] W fun e w' => e = .returned (.int .i64 (g : Int)) ∧ Touch (fun _ => False) W w') := fun W t => by
                  have := ops_len x (by have := HX7.out.2.2; omega) W (HU.out.keep t)
                  rw [HX7.out.1] at this
                  exact this
                have HL2 : Hid (∀ W, Calls Tryz.prog 32 #[.string x.tx] W fun e w' => e = .returned (.int .i64 (g : Int)) ∧ Touch (fun _ => False) W w') := fun W => by
                  have := ref_len x.tx (by have := HX7.out.2.2; omega) W
                  rw [HX7.out.2.1] at this
                  exact this
                have HZ2 : Hid (z - g = M - 4096 * (i + 1)) := by have h1 := HZ.out; have h2 := hg.out; show _ = _; omega
                have ggn : ((g : Int) != (g : Int)) = false := by simp
                have HTw : Hid (Touch (fun _ => False) w Z0) := (HTX.out.trans HNJ.out.1).trans HT.out
                clear hg hx
                go_upto_region 25 with fail
                try rw [hmg]
                refine wp_region_lit ?_
                refine wpList_plain rfl fun K hK => ?_
                go_simp
                refine hK _ _ ?_
                clear hK K
                refine wpList_plain rfl fun K hK => ?_
                go_simp
                refine hK _ _ ?_
                clear hK K
                refine wpList_plain rfl fun K hK => ?_
                go_simp
                refine hK _ _ ?_
                clear hK K
                refine wpList_load_mid rfl 31 (.tmp 83) rfl b (o + i * 22) rfl x.vals.toList _ (HXR.out _ HT.out) Tryz.underlying31 rfl (by kernel_rfl) ?_
                simp only [Act.put, List.setIfInBounds_toArray, List.set_cons_succ, List.set_cons_zero]
                refine wpList_plain rfl fun K hK => ?_
                go_simp
                refine (HL1.out _ HTw.out).mono ?_
                rintro e Z1 ⟨rfl, t1⟩
                have HT2 : Hid (Touch (fun _ => False) Y9 Z1) := HT.out.trans t1
                have qx : Z1.cell? ⟨b, o + i * 22 + 8, none⟩ = some (.string x.tx) := HXR.out Z1 HT2.out 8 (.string x.tx) rfl
                clear t1 HT
                refine hK _ _ ?_
                clear hK K
                go_wp2_with fail
                refine (HL2.out _).mono ?_
                rintro e Z2 ⟨rfl, t2⟩
                have HT3 : Hid (Touch (fun _ => False) Y9 Z2) := HT2.out.trans t2
                clear t2 HT2 qx
                go_wp2_with fail
                go_roundg (J.length - (i + 1))
                case measure => omega
                case rel => exact ⟨i + 1, z - g, by omega, rfl, by go_num, HZ2.out, HT3.out⟩
              · have i1 : ¬ (i : Int) < (J.length : Int) := by omega
                have hiJ : i = J.length := by omega
                have hz0 : z = 0 := by
                  have h1 := HZ.out
                  have h2 := (HCo.out i)
                  have h3 : ¬ 4096 * i < M := fun h => by have := h2.2 h; omega
                  omega
                subst hz0
                clear HZ
                obtain ⟨x, hx⟩ : ∃ x, Hid (x = J[0]'(by omega)) := ⟨J[0]'(by omega), Eq.refl _⟩
                have HXR : Hid (∀ W, Touch (fun _ => False) Y9 W → W.rangeAt b o x.vals.toList) := fun W t => by
                  have := HRW.out W t 0 (by omega)
                  rw [Nat.zero_mul, Nat.add_zero] at this
                  rw [hx.out]; exact this
                obtain ⟨L0, hL0⟩ : ∃ L0 : Nat, Hid (L0 = min M 4096) := ⟨_, Eq.refl _⟩
                have hL0' : 1 ≤ L0 ∧ L0 ≤ 4096 := by have := hL0.out; omega
                have HX7 : Hid (rangeV x = rgV ⟨7, 1, 1 + (L0 : Int)⟩ ∧ x.tx.size ≤ 1000000) := by
                  have h7 := HAt.out 0 (by omega)
                  rw [← hx.out] at h7
                  have hl := h7.len
                  rw [Nat.mul_zero, Nat.sub_zero, ← hL0.out] at hl
                  have ec : x.c = 7 := by rw [h7.eq]; exact (base7_k _).2.1
                  have ek : x.k = 1 := by
                    rw [h7.eq]
                    exact (base7_k _).1.trans (by simp)
                  refine ⟨?_, h7.size⟩
                  show Value.agg #[.int .u64 x.c, .int .u64 x.k, .int .u64 (endO x)] = _
                  unfold endO
                  rw [ec, ek, hl, wrap_u64_small _ (by omega) (by omega)]
                clear hL0 hx
                obtain ⟨r, hr⟩ : ∃ r : Rg, Hid (r = ⟨7, 1, 1 + (L0 : Int)⟩) := ⟨_, Eq.refl _⟩
                rw [← hr.out] at HX7
                have HRok : Hid (r.ok = true) := by
                  show _ = true
                  rw [hr.out, Rg.ok_iff]
                  simp only
                  omega
                have HRg : Hid (∀ W, Touch (fun _ => False) w W → Calls Tryz.prog 18 #[x.val] W fun e w' => e = .returned (rgV r) ∧ Touch (fun _ => False) W w') := fun W t => by
                  have := ops_range x (by have := HX7.out.2; omega) W (HU.out.keep t)
                  rw [HX7.out.1] at this
                  exact this
                clear hr HX7
                have hJne : J ≠ [] := by intro e; rw [e] at hJ1; simp at hJ1
                have HSM : Hid (∀ W v1 v2, SlP W v1 J → SlP W v2 J → Calls Tryz.prog 22 #[v1, v2] W fun e w' => e = .returned (.bool true) ∧ Touch (fun _ => False) W w') := fun W v1 v2 h1 h2 => sameAll_any J J hJne rfl v1 v2 W h1 h2 (by omega) (fun y hy => by obtain ⟨q, hq, rfl⟩ := List.getElem_of_mem hy; exact (HAt.out q hq).vf) (fun y hy => by obtain ⟨q, hq, rfl⟩ := List.getElem_of_mem hy; exact (HAt.out q hq).vf) (fun j _ _ => same_same _)
                have HTw : Hid (Touch (fun _ => False) X0 Z0.drew ∧ Touch (fun _ => False) Y9 Z0.drew) := ⟨(HNJ.out.1.trans HT.out).drew, HT.out.drew⟩
                have hbr : ∀ (r : Rg) (W : World), (Instr.buildSlice 56 1 #[(0, rgV r)]).run Tryz.prog W = .ok (.slice (some ⟨W.heap.size, 0, none⟩) 1 1) (W.alloc (rgO r)) := fun r W => by kernel_rfl
                have j0 : (0 : Int) < (J.length : Int) := by omega
                clear HT
                go_upto_region 28 with fail
                have hS0 := HXR.out Z0.drew HTw.out.2
                refine wp_region_held_drew (S := fun W => W.rangeAt b o x.vals.toList) (by kernel_rfl) hS0 (fun hHeld => ?_)
                clear hS0
                generalize Z0.drew = Q0 at *
                refine wpAnyH_take (i := 0) (oi := { dst := some 101, op := Go.Op.move (Go.Operand.tmp 13), type := 3, pos := "law.go:182", after := #[], guard := none }) (v := .int .i64 0) rfl (by kernel_rfl) (by kernel_rfl) (by kernel_rfl) (fun _ _ _ h => h) (Or.inl ⟨by rfl, ?_⟩) hHeld ?_
                · intro w hSw; clear hSw; go_simp
                simp only [Act.put, List.setIfInBounds_toArray, List.set_cons_succ, List.set_cons_zero]
                refine wpAnyH_take (i := 1) (oi := { dst := some 102, op := Go.Op.binOp Go.BinOp.eql 3 (Go.Operand.tmp 101) (Go.Operand.const (Go.Value.int Go.IntKind.i64 0)) 3, type := 4, pos := "law.go:182", after := #[{ on := 0, ground := Go.Ground.data }], guard := none }) (v := .bool true) rfl (by kernel_rfl) (by kernel_rfl) (by kernel_rfl) (fun _ _ _ h => h) (Or.inl ⟨by rfl, ?_⟩) hHeld ?_
                · intro w hSw; clear hSw; go_simp
                simp only [Act.put, List.setIfInBounds_toArray, List.set_cons_succ, List.set_cons_zero]
                refine wpAnyH_take (i := 2) (oi := { dst := some 103, op := Go.Op.move (Go.Operand.tmp 102), type := 4, pos := "law.go:182", after := #[{ on := 1, ground := Go.Ground.data }], guard := none }) (v := .bool true) rfl (by kernel_rfl) (by kernel_rfl) (by kernel_rfl) (fun _ _ _ h => h) (Or.inl ⟨by rfl, ?_⟩) hHeld ?_
                · intro w hSw; clear hSw; go_simp
                simp only [Act.put, List.setIfInBounds_toArray, List.set_cons_succ, List.set_cons_zero]
                refine wpAnyH_take (i := 3) (oi := { dst := some 104, op := Go.Op.move (Go.Operand.tmp 12), type := 45, pos := "law.go:182", after := #[{ on := 2, ground := Go.Ground.guard }], guard := some (2, true) }) (v := .slice (some ⟨b, o, none⟩) J.length cp9) rfl (by kernel_rfl) (by kernel_rfl) (by kernel_rfl) (fun _ _ _ h => h) (Or.inl ⟨by rfl, ?_⟩) hHeld ?_
                · intro w hSw; clear hSw; go_simp
                simp only [Act.put, List.setIfInBounds_toArray, List.set_cons_succ, List.set_cons_zero]
                refine wpAnyH_take (i := 4) (oi := { dst := some 105, op := Go.Op.move (Go.Operand.tmp 8), type := 45, pos := "law.go:182", after := #[{ on := 2, ground := Go.Ground.guard }], guard := some (2, true) }) (v := .slice ao n cp) rfl (by kernel_rfl) (by kernel_rfl) (by kernel_rfl) (fun _ _ _ h => h) (Or.inl ⟨by rfl, ?_⟩) hHeld ?_
                · intro w hSw; clear hSw; go_simp
                simp only [Act.put, List.setIfInBounds_toArray, List.set_cons_succ, List.set_cons_zero]
                refine wpAnyH_ready (rs := [5]) (by kernel_rfl) (by simp) ?_
                refine AllReadyH.cons (o := { dst := some 106, op := Go.Op.call { callee := Go.Callee.value (Go.Operand.func 30), args := #[Go.Operand.tmp 105], argTypes := #[45] }, type := 45, pos := "law.go:182", after := #[{ on := 4, ground := Go.Ground.data }, { on := 2, ground := Go.Ground.chain }, { on := 2, ground := Go.Ground.guard }], guard := some (2, true) }) rfl (fun K hK => ?_) AllReadyH.nil
                go_simp
                refine (HRJ.out _ HTw.out.1).mono ?_
                rintro e Q1 ⟨vq, rfl, hN9⟩
                have t2 := hN9.touch
                have HS9 : Hid (SlP Q1 vq J) := hN9.sl
                obtain ⟨aoq, cpq, rfl, _⟩ := hN9.shape
                clear hN9
                have HTw2 : Hid (Touch (fun _ => False) X0 Q1 ∧ Touch (fun _ => False) Y9 Q1) := ⟨HTw.out.1.trans t2, HTw.out.2.trans t2⟩
                have hS2 := HXR.out Q1 HTw2.out.2
                clear t2 HTw
                rename Hid (Touch (fun _ => False) X0 Q1 ∧ Touch (fun _ => False) Y9 Q1) => HTw
                refine hK.out _ _ hS2 (fun hHeld => ?_)
                clear hK K hS2
                refine wpAnyH_ready (rs := [6]) (by kernel_rfl) (by simp) ?_
                refine AllReadyH.cons (o := { dst := some 107, op := Go.Op.call { callee := Go.Callee.value (Go.Operand.func 22), args := #[Go.Operand.tmp 104, Go.Operand.tmp 106], argTypes := #[45, 45] }, type := 4, pos := "law.go:182", after := #[{ on := 3, ground := Go.Ground.data }, { on := 5, ground := Go.Ground.data }, { on := 5, ground := Go.Ground.chain }, { on := 2, ground := Go.Ground.guard }], guard := some (2, true) }) rfl (fun K hK => ?_) AllReadyH.nil
                go_simp
                refine (HSM.out _ _ _ (HNJ.out.2.touch HTw.out.2) HS9.out).mono ?_
                rintro e Q2 ⟨rfl, t2⟩
                have HTw2 : Hid (Touch (fun _ => False) X0 Q2 ∧ Touch (fun _ => False) Y9 Q2) := ⟨HTw.out.1.trans t2, HTw.out.2.trans t2⟩
                have hS2 := HXR.out Q2 HTw2.out.2
                clear t2 HTw
                rename Hid (Touch (fun _ => False) X0 Q2 ∧ Touch (fun _ => False) Y9 Q2) => HTw
                refine hK.out _ _ hS2 (fun hHeld => ?_)
                clear hK K hS2
                refine wpAnyH_take (i := 7) (oi := { dst := some 108, op := Go.Op.pick (Go.Operand.tmp 103) (Go.Operand.tmp 107) (Go.Operand.const (Go.Value.bool false)), type := 4, pos := "law.go:182", after := #[{ on := 2, ground := Go.Ground.data }, { on := 6, ground := Go.Ground.data }], guard := none }) (v := .bool true) rfl (by kernel_rfl) (by kernel_rfl) (by kernel_rfl) (fun _ _ _ h => h) (Or.inl ⟨by rfl, ?_⟩) hHeld ?_
                · intro w hSw; clear hSw; go_simp
                simp only [Act.put, List.setIfInBounds_toArray, List.set_cons_succ, List.set_cons_zero]
                refine wpAnyH_take (i := 8) (oi := { dst := some 109, op := Go.Op.move (Go.Operand.tmp 108), type := 4, pos := "law.go:182", after := #[{ on := 7, ground := Go.Ground.data }, { on := 6, ground := Go.Ground.chain }], guard := none }) (v := .bool true) rfl (by kernel_rfl) (by kernel_rfl) (by kernel_rfl) (fun _ _ _ h => h) (Or.inl ⟨by rfl, ?_⟩) hHeld ?_
                · intro w hSw; clear hSw; go_simp
                simp only [Act.put, List.setIfInBounds_toArray, List.set_cons_succ, List.set_cons_zero]
                refine wpAnyH_take (i := 9) (oi := { dst := some 110, op := Go.Op.move (Go.Operand.tmp 12), type := 45, pos := "law.go:182", after := #[{ on := 8, ground := Go.Ground.guard }], guard := some (8, true) }) (v := .slice (some ⟨b, o, none⟩) J.length cp9) rfl (by kernel_rfl) (by kernel_rfl) (by kernel_rfl) (fun _ _ _ h => h) (Or.inl ⟨by rfl, ?_⟩) hHeld ?_
                · intro w hSw; clear hSw; go_simp
                simp only [Act.put, List.setIfInBounds_toArray, List.set_cons_succ, List.set_cons_zero]
                refine wpAnyH_take (i := 10) (oi := { dst := some 111, op := Go.Op.indexAddr 45 (Go.Operand.tmp 110) (Go.Operand.const (Go.Value.int Go.IntKind.i64 0)), type := 0, pos := "law.go:182", after := #[{ on := 9, ground := Go.Ground.data }, { on := 8, ground := Go.Ground.guard }], guard := some (8, true) }) (v := .pointer (some ⟨b, o, none⟩)) rfl (by kernel_rfl) (by kernel_rfl) (by kernel_rfl) (fun _ _ _ h => h) (Or.inl ⟨by rfl, ?_⟩) hHeld ?_
                · intro w hSw; clear hSw; go_simp
                simp only [Act.put, List.setIfInBounds_toArray, List.set_cons_succ, List.set_cons_zero]
                refine wpAnyH_take (i := 11) (oi := { dst := some 112, op := Go.Op.load 31 (Go.Operand.tmp 111), type := 31, pos := "law.go:182", after := #[{ on := 10, ground := Go.Ground.data }, { on := 8, ground := Go.Ground.guard }], guard := some (8, true) }) (v := x.val) rfl (by kernel_rfl) (by kernel_rfl) (by kernel_rfl) (fun _ _ _ h => h) (yieldsIf_load_mid (by rfl) 31 (.tmp 111) rfl b o rfl x.vals.toList _ (fun w hw => hw) Tryz.underlying31 rfl (by kernel_rfl)) hHeld ?_
                simp only [Act.put, List.setIfInBounds_toArray, List.set_cons_succ, List.set_cons_zero]
                refine wpAnyH_take (i := 15) (oi := { dst := some 116, op := Go.Op.move (Go.Operand.tmp 12), type := 45, pos := "law.go:182", after := #[{ on := 8, ground := Go.Ground.guard }], guard := some (8, true) }) (v := .slice (some ⟨b, o, none⟩) J.length cp9) rfl (by kernel_rfl) (by kernel_rfl) (by kernel_rfl) (fun _ _ _ h => h) (Or.inl ⟨by rfl, ?_⟩) hHeld ?_
                · intro w hSw; clear hSw; go_simp
                simp only [Act.put, List.setIfInBounds_toArray, List.set_cons_succ, List.set_cons_zero]
                refine wpAnyH_take (i := 16) (oi := { dst := some 117, op := Go.Op.indexAddr 45 (Go.Operand.tmp 116) (Go.Operand.const (Go.Value.int Go.IntKind.i64 0)), type := 0, pos := "law.go:182", after := #[{ on := 15, ground := Go.Ground.data }, { on := 8, ground := Go.Ground.guard }], guard := some (8, true) }) (v := .pointer (some ⟨b, o, none⟩)) rfl (by kernel_rfl) (by kernel_rfl) (by kernel_rfl) (fun _ _ _ h => h) (Or.inl ⟨by rfl, ?_⟩) hHeld ?_
                · intro w hSw; clear hSw; go_simp
                simp only [Act.put, List.setIfInBounds_toArray, List.set_cons_succ, List.set_cons_zero]
                refine wpAnyH_take (i := 17) (oi := { dst := some 118, op := Go.Op.load 31 (Go.Operand.tmp 117), type := 31, pos := "law.go:182", after := #[{ on := 16, ground := Go.Ground.data }, { on := 8, ground := Go.Ground.guard }], guard := some (8, true) }) (v := x.val) rfl (by kernel_rfl) (by kernel_rfl) (by kernel_rfl) (fun _ _ _ h => h) (yieldsIf_load_mid (by rfl) 31 (.tmp 117) rfl b o rfl x.vals.toList _ (fun w hw => hw) Tryz.underlying31 rfl (by kernel_rfl)) hHeld ?_
                simp only [Act.put, List.setIfInBounds_toArray, List.set_cons_succ, List.set_cons_zero]
                refine wpAnyH_ready (rs := [12]) (by kernel_rfl) (by simp) ?_
                refine AllReadyH.cons (o := { dst := some 113, op := Go.Op.call { callee := Go.Callee.value (Go.Operand.func 18), args := #[Go.Operand.tmp 112], argTypes := #[31] }, type := 41, pos := "law.go:182", after := #[{ on := 11, ground := Go.Ground.data }, { on := 8, ground := Go.Ground.chain }, { on := 8, ground := Go.Ground.guard }], guard := some (8, true) }) rfl (fun K hK => ?_) AllReadyH.nil
                go_simp
                refine (HRg.out _ (HTX.out.trans HTw.out.1)).mono ?_
                rintro e Q3 ⟨rfl, t2⟩
                have HTw2 : Hid (Touch (fun _ => False) X0 Q3 ∧ Touch (fun _ => False) Y9 Q3) := ⟨HTw.out.1.trans t2, HTw.out.2.trans t2⟩
                have hS2 := HXR.out Q3 HTw2.out.2
                clear t2 HTw
                rename Hid (Touch (fun _ => False) X0 Q3 ∧ Touch (fun _ => False) Y9 Q3) => HTw
                refine hK.out _ _ hS2 (fun hHeld => ?_)
                clear hK K hS2
                refine wpAnyH_ready (rs := [13]) (by kernel_rfl) (by simp) ?_
                refine AllReadyH.cons (o := { dst := some 114, op := Go.Op.buildSlice 56 1 #[(0, Go.Operand.tmp 113)], type := 56, pos := "law.go:182", after := #[{ on := 12, ground := Go.Ground.data }, { on := 8, ground := Go.Ground.guard }], guard := some (8, true) }) rfl (fun K hK => ?_) AllReadyH.nil
                go_simp
                obtain ⟨Q4, hW⟩ : ∃ W, Hid (W = Q3.alloc (rgO r)) := ⟨_, Eq.refl _⟩
                have t2 : Touch (fun _ => False) Q3 Q4 := by rw [hW.out]; exact (Touch.refl _ _).alloc _
                have HR1 : Hid (SlR Q4 (.slice (some ⟨Q3.heap.size, 0, none⟩) 1 1) [r]) := by rw [hW.out]; exact SlR.one Q3 r
                rw [← hW.out]
                clear hW
                have HTw2 : Hid (Touch (fun _ => False) X0 Q4 ∧ Touch (fun _ => False) Y9 Q4) := ⟨HTw.out.1.trans t2, HTw.out.2.trans t2⟩
                have hS2 := HXR.out Q4 HTw2.out.2
                clear t2 HTw
                rename Hid (Touch (fun _ => False) X0 Q4 ∧ Touch (fun _ => False) Y9 Q4) => HTw
                refine hK.out _ _ hS2 (fun hHeld => ?_)
                clear hK K hS2
                refine wpAnyH_ready (rs := [14]) (by kernel_rfl) (by simp) ?_
                refine AllReadyH.cons (o := { dst := some 115, op := Go.Op.call { callee := Go.Callee.value (Go.Operand.func 34), args := #[Go.Operand.tmp 114], argTypes := #[56] }, type := 56, pos := "law.go:182", after := #[{ on := 13, ground := Go.Ground.data }, { on := 12, ground := Go.Ground.chain }, { on := 8, ground := Go.Ground.guard }], guard := some (8, true) }) rfl (fun K hK => ?_) AllReadyH.nil
                go_simp
                refine (clean_one r HRok.out _ _ HR1.out).mono ?_
                rintro e Q5 ⟨v8, rfl, hN8⟩
                have t2 := hN8.touch
                have HS8 : Hid (SlR Q5 v8 [r]) := hN8.sl
                obtain ⟨ao8, cp8, e8, _⟩ := hN8.sl.shape
                have e8 : v8 = .slice ao8 1 cp8 := e8
                subst e8
                clear hN8
                have HTw2 : Hid (Touch (fun _ => False) X0 Q5 ∧ Touch (fun _ => False) Y9 Q5) := ⟨HTw.out.1.trans t2, HTw.out.2.trans t2⟩
                have hS2 := HXR.out Q5 HTw2.out.2
                clear t2 HTw
                rename Hid (Touch (fun _ => False) X0 Q5 ∧ Touch (fun _ => False) Y9 Q5) => HTw
                refine hK.out _ _ hS2 (fun hHeld => ?_)
                clear hK K hS2
                refine wpAnyH_ready (rs := [18]) (by kernel_rfl) (by simp) ?_
                refine AllReadyH.cons (o := { dst := some 119, op := Go.Op.call { callee := Go.Callee.value (Go.Operand.func 18), args := #[Go.Operand.tmp 118], argTypes := #[31] }, type := 41, pos := "law.go:182", after := #[{ on := 17, ground := Go.Ground.data }, { on := 14, ground := Go.Ground.chain }, { on := 8, ground := Go.Ground.guard }], guard := some (8, true) }) rfl (fun K hK => ?_) AllReadyH.nil
                go_simp
                refine (HRg.out _ (HTX.out.trans HTw.out.1)).mono ?_
                rintro e Q6 ⟨rfl, t2⟩
                have HTw2 : Hid (Touch (fun _ => False) X0 Q6 ∧ Touch (fun _ => False) Y9 Q6) := ⟨HTw.out.1.trans t2, HTw.out.2.trans t2⟩
                have HS8 : Hid (SlR Q6 (.slice ao8 1 cp8) [r]) := HS8.out.touch t2
                have hS2 := HXR.out Q6 HTw2.out.2
                clear t2 HTw
                rename Hid (Touch (fun _ => False) X0 Q6 ∧ Touch (fun _ => False) Y9 Q6) => HTw
                refine hK.out _ _ hS2 (fun hHeld => ?_)
                clear hK K hS2
                refine wpAnyH_ready (rs := [19]) (by kernel_rfl) (by simp) ?_
                refine AllReadyH.cons (o := { dst := some 120, op := Go.Op.buildSlice 56 1 #[(0, Go.Operand.tmp 119)], type := 56, pos := "law.go:182", after := #[{ on := 18, ground := Go.Ground.data }, { on := 8, ground := Go.Ground.guard }], guard := some (8, true) }) rfl (fun K hK => ?_) AllReadyH.nil
                go_simp
                obtain ⟨Q7, hW⟩ : ∃ W, Hid (W = Q6.alloc (rgO r)) := ⟨_, Eq.refl _⟩
                have t2 : Touch (fun _ => False) Q6 Q7 := by rw [hW.out]; exact (Touch.refl _ _).alloc _
                have HR2 : Hid (SlR Q7 (.slice (some ⟨Q6.heap.size, 0, none⟩) 1 1) [r]) := by rw [hW.out]; exact SlR.one Q6 r
                have HS8 : Hid (SlR Q7 (.slice ao8 1 cp8) [r]) := HS8.out.touch t2
                rw [← hW.out]
                clear hW
                have HTw2 : Hid (Touch (fun _ => False) X0 Q7 ∧ Touch (fun _ => False) Y9 Q7) := ⟨HTw.out.1.trans t2, HTw.out.2.trans t2⟩
                have hS2 := HXR.out Q7 HTw2.out.2
                clear t2 HTw
                rename Hid (Touch (fun _ => False) X0 Q7 ∧ Touch (fun _ => False) Y9 Q7) => HTw
                refine hK.out _ _ hS2 (fun hHeld => ?_)
                clear hK K hS2
                refine wpAnyH_ready (rs := [20]) (by kernel_rfl) (by simp) ?_
                refine AllReadyH.cons (o := { dst := some 121, op := Go.Op.call { callee := Go.Callee.value (Go.Operand.func 33), args := #[Go.Operand.tmp 115, Go.Operand.tmp 120], argTypes := #[56, 56] }, type := 4, pos := "law.go:182", after := #[{ on := 14, ground := Go.Ground.data }, { on := 19, ground := Go.Ground.data }, { on := 18, ground := Go.Ground.chain }, { on := 8, ground := Go.Ground.guard }], guard := some (8, true) }) rfl (fun K hK => ?_) AllReadyH.nil
                go_simp
                refine (rangesEq_any [r] _ _ _ HS8.out HR2.out (by simp)).mono ?_
                rintro e Q8 ⟨rfl, t2⟩
                have HTw2 : Hid (Touch (fun _ => False) X0 Q8 ∧ Touch (fun _ => False) Y9 Q8) := ⟨HTw.out.1.trans t2, HTw.out.2.trans t2⟩
                have hS2 := HXR.out Q8 HTw2.out.2
                clear t2 HTw
                rename Hid (Touch (fun _ => False) X0 Q8 ∧ Touch (fun _ => False) Y9 Q8) => HTw
                refine hK.out _ _ hS2 (fun hHeld => ?_)
                clear hK K hS2
                refine wpAnyH_take (i := 21) (oi := { dst := some 122, op := Go.Op.pick (Go.Operand.tmp 109) (Go.Operand.tmp 121) (Go.Operand.const (Go.Value.bool false)), type := 4, pos := "law.go:182", after := #[{ on := 8, ground := Go.Ground.data }, { on := 20, ground := Go.Ground.data }], guard := none }) (v := .bool true) rfl (by kernel_rfl) (by kernel_rfl) (by kernel_rfl) (fun _ _ _ h => h) (Or.inl ⟨by rfl, ?_⟩) hHeld ?_
                · intro w hSw; clear hSw; go_simp
                simp only [Act.put, List.setIfInBounds_toArray, List.set_cons_succ, List.set_cons_zero]
                refine wpAnyH_take (i := 22) (oi := { dst := some 6, op := Go.Op.assign (Go.Operand.tmp 122), type := 4, pos := "law.go:182", after := #[{ on := 21, ground := Go.Ground.data }, { on := 20, ground := Go.Ground.chain }, { on := 0, ground := Go.Ground.phase }, { on := 1, ground := Go.Ground.phase }, { on := 2, ground := Go.Ground.phase }, { on := 3, ground := Go.Ground.phase }, { on := 4, ground := Go.Ground.phase }, { on := 5, ground := Go.Ground.phase }, { on := 6, ground := Go.Ground.phase }, { on := 7, ground := Go.Ground.phase }, { on := 8, ground := Go.Ground.phase }, { on := 9, ground := Go.Ground.phase }, { on := 10, ground := Go.Ground.phase }, { on := 11, ground := Go.Ground.phase }, { on := 12, ground := Go.Ground.phase }, { on := 13, ground := Go.Ground.phase }, { on := 14, ground := Go.Ground.phase }, { on := 15, ground := Go.Ground.phase }, { on := 16, ground := Go.Ground.phase }, { on := 17, ground := Go.Ground.phase }, { on := 18, ground := Go.Ground.phase }, { on := 19, ground := Go.Ground.phase }, { on := 20, ground := Go.Ground.phase }, { on := 21, ground := Go.Ground.phase }], guard := none }) (v := .bool true) rfl (by kernel_rfl) (by kernel_rfl) (by kernel_rfl) (fun _ _ _ h => h) (Or.inl ⟨by rfl, ?_⟩) hHeld ?_
                · intro w hSw; clear hSw; go_simp
                simp only [Act.put, List.setIfInBounds_toArray, List.set_cons_succ, List.set_cons_zero]
                refine wpAnyH_done (by kernel_rfl) ?_ _
                try simp only [List.getElem_toArray, List.getElem_cons_succ, List.getElem_cons_zero, List.setIfInBounds_toArray, List.set_cons_succ, List.set_cons_zero]
                clear hHeld
                go_wp2_with fail
                go_ret
                exact ⟨rfl, HTX.out.trans HTw.out.1⟩
end Go.Proofs.YtphcnjbiojdalaaGreatDoor
