/- quirelaw9.SeqLong holds. -/
import Derived.Test.YtdonhdmealhgiabKnown9c
import Derived.Test.YtdonhdmealhgiabSqR
namespace Go.Proofs.Ytdonhdmealhgiab
open Go.RowKit
set_option linter.unusedVariables false
set_option linter.unusedSimpArgs false
set_option maxRecDepth 100000

set_option maxHeartbeats 800000 in
theorem place1500_any (k : Int) (w : World) (h0 : -9223372036854775808 ≤ k) (h1 : k ≤ 9223372036854775807) : Calls Try.prog 15 #[.int .i64 k, .int .i64 1500] w fun e w' => ∃ p : Nat, e = .returned (.int .i64 (p : Int)) ∧ p < 1500 ∧ w' = w := by
  have ha := Int.tmod_lt_of_pos k (b := 1500) (by omega)
  have hb : -1500 < k.tmod 1500 := by
    have := Int.lt_tmod_of_pos k (b := 1500) (by omega)
    omega
  generalize ht : k.tmod 1500 = t at *
  by_cases hn : t < 0
  · obtain ⟨p, hp⟩ : ∃ p : Nat, (p : Int) = t + 1500 := ⟨(t + 1500).toNat, by omega⟩
    have HP : Hid ((p : Int) = t + 1500) := hp
    clear hp
    go_enter Try.func15, Try.ntmps15
    go_wp2_with fail
    go_ret
    exact ⟨p, by rw [HP.out]; rfl, by have := HP.out; omega, rfl⟩
  · obtain ⟨p, hp⟩ : ∃ p : Nat, (p : Int) = t := ⟨t.toNat, by omega⟩
    have HP : Hid ((p : Int) = t) := hp
    clear hp
    go_enter Try.func15, Try.ntmps15
    go_wp2_with fail
    go_ret
    exact ⟨p, by rw [HP.out]; rfl, by have := HP.out; omega, rfl⟩
theorem Kn.drop {w0 w : World} {p : Nat} {X Y : List (Nat × Obj)} {S : SS} (h : Kn w0 w p X S) (hs : ∀ x ∈ Y, x ∈ X) : Kn w0 w p Y S := by
  obtain ⟨a, b, c, B, d, e, f, g⟩ := h
  exact ⟨a, b, fun x hx => c x (hs x hx), B, d, e, f, fun x hx => g x (hs x hx)⟩
theorem Kn.ge {w0 w : World} {p k : Nat} {X : List (Nat × Obj)} {S : SS} (h : Kn w0 w p X S) : w0.heap.size ≤ w.heap.size := h.2.1.size
set_option maxHeartbeats 32000000 in
theorem seqLong_any (w : World) (n : Int) (hn : -9223372036854775808 ≤ n ∧ n ≤ 9223372036854775807) (back : Bool) : Calls Try.prog 4 #[.int .i64 n, .bool back] w fun e w' => e = .returned (.bool true) ∧ Touch (fun _ => False) w w' := by
  go_enter Try.func4, Try.ntmps4
  go_wp2_with fail
  refine (known_any w).mono ?_
  rintro e W1 ⟨rfl, t1⟩
  have HT1 : Hid (Touch (fun _ => False) w W1) := t1
  clear t1
  go_wp2_with fail
  refine (place1500_any n W1 hn.1 hn.2).mono ?_
  rintro e W2 ⟨pq, rfl, hpq, hw2⟩
  rw [hw2]
  clear hw2 hn
  obtain ⟨m, hm⟩ : ∃ m : Nat, m = 1 + pq := ⟨_, rfl⟩
  have em : (1 : Int) + (pq : Int) = (m : Int) := by omega
  have hm1 : 1 ≤ m ∧ m ≤ 1500 := by omega
  have HMi : Hid (1 ≤ m ∧ m ≤ 1500) := hm1
  have lm : (m : Int) ≤ 1500 := by omega
  clear hm hpq hm1
  go_wp2_with fail
  refine (Kn.new W1).mono ?_
  rintro e W3 ⟨q, rfl, h3⟩
  have K3 : Hid (Kn W1 W3 q [] .new) := h3
  clear h3 em
  go_upto_region 6 with fail
  obtain ⟨W4, hW4⟩ : ∃ W, Hid (W = W3.alloc (.cells #[.int .u64 0, .int .u64 0] 31)) := ⟨_, Eq.refl _⟩
  obtain ⟨ml, hml⟩ : ∃ m, Hid (m = W3.heap.size) := ⟨_, Eq.refl _⟩
  have K4 : Hid (Kn W1 W4 q [(ml, idO 0 0)] .new ∧ W1.heap.size ≤ ml) := by
    rw [hW4.out, hml.out]
    exact ⟨K3.out.box (idO 0 0), K3.out.2.1.size⟩
  rw [← hW4.out, ← hml.out]
  clear hW4 hml K3
  go_wp2_with fail
  go_loopg [7] m (fun gk s7 wx => ∃ (j : Nat) (S : SS), Hid (j + gk = m) ∧ s7 = iV ((j : Int) + 1) ∧ Hid (Kn W1 wx q [(ml, idO (lcOf j) j)] S ∧ LS back S j))
  case atStart => exact ⟨0, .new, Nat.zero_add _, rfl, K4.out.1, rfl⟩
  case round =>
    obtain ⟨j, S, hjg, rfl, HI⟩ := hrel
    obtain ⟨V0, hV0⟩ : ∃ X, X = wr := ⟨_, rfl⟩
    subst hV0
    by_cases hjm : j < m
    · have lj : (j : Int) + 1 ≤ (m : Int) := by omega
      have e1 : IntKind.u64.wrap ((j : Int) + 1) = (j : Int) + 1 := by rw [IntKind.wrap_u64]; omega
      have e2 : IntKind.i64.wrap ((j : Int) + 1 + 1) = (j : Int) + 1 + 1 := by rw [IntKind.wrap_i64]; omega
      have hj5 : j ≤ 1500 := by have := HMi.out; omega
      have HJm : Hid (j + 1 ≤ m) := (by omega : j + 1 ≤ m)
      have HJg : Hid (j + 1 + (m - (j + 1)) = m) := (by omega : j + 1 + (m - (j + 1)) = m)
      have Hst : Hid (S.may (nextU back j) 1 = true ∧ LS back (S.run (nextU back j) 1) (j + 1)) := HI.out.2.step (by omega)
      have HRo : Hid (Room S 1) := HI.out.2.room (by omega)
      have Hok : Hid ((nextU back j).ok) := nextU_ok back j (by omega)
      have HLc : Hid (lcOf (j + 1) = 1) := if_neg (by omega)
      obtain ⟨lc, hlc⟩ : ∃ c, Hid (c = lcOf j) := ⟨_, Eq.refl _⟩
      have KI : Hid (Kn W1 V0 q [(ml, idO lc j)] S) := by rw [hlc.out]; exact HI.out.1
      clear HI hjm hj5
      go_wp2_with fail
      refine (KI.out.id 1 ((j : Int) + 1)).mono ?_
      rintro e V1 ⟨rfl, h1⟩
      have K1 : Hid (Kn W1 V1 q [(ml, idO lc j)] S) := h1
      clear h1 KI
      obtain ⟨S', hS'⟩ : ∃ s, Hid (s = S.run (nextU back j) 1) := ⟨_, Eq.refl _⟩
      have HFx : Hid (∀ V mu u, Kn W1 V q [(mu, unO u), (ml, idO lc j)] S' → u.c = 1 → u.k = (j : Int) + 1 → mu ≠ ml → (V.cell? ⟨mu, 0, none⟩ = some (.int .u64 1) ∧ V.cell? ⟨mu, 1, none⟩ = some (.int .u64 ((j : Int) + 1)) ∧ V.cell? ⟨ml, 0, none⟩ = some (.int .u64 lc) ∧ V.cell? ⟨ml, 1, none⟩ = some (.int .u64 j) ∧ V.frozen? ⟨ml, 0, none⟩ = false ∧ V.frozen? ⟨ml, 1, none⟩ = false ∧ (V.setCell ⟨ml, 0, none⟩ (.int .u64 1)).cell? ⟨ml, 1, none⟩ = some (.int .u64 j)) ∧ Kn W1 ((V.setCell ⟨ml, 0, none⟩ (.int .u64 1)).setCell ⟨ml, 1, none⟩ (.int .u64 ((j : Int) + 1))) q [(ml, idO (lcOf (j + 1)) ((j + 1 : Nat) : Int))] S') := fun V mu u hK hc hk hne => by
        have hx := hK.2.2.1
        have a := hx (mu, unO u) (by simp)
        have b := hx (ml, idO lc j) (by simp)
        have a' := unO_cells a
        rw [hc, hk] at a'
        have b' := idO_cells b
        have s1 := heap_setCell_same V ml 0 (.int .u64 1) b
        have s2 := heap_setCell_same (V.setCell ⟨ml, 0, none⟩ (.int .u64 1)) ml 1 (.int .u64 ((j : Int) + 1)) s1
        refine ⟨⟨a'.1, a'.2.1, b'.1, b'.2, free_of_block b, free_of_block b, by rw [cell_of_block s1]; rfl⟩, ?_⟩
        have hsw : Kn W1 V q [(ml, idO lc j), (mu, unO u)] S' := hK.drop (fun x hx => by simp at hx ⊢; rcases hx with h | h <;> simp [h])
        have := hsw.set (o' := idO (lcOf (j + 1)) ((j + 1 : Nat) : Int)) (w' := (V.setCell ⟨ml, 0, none⟩ (.int .u64 1)).setCell ⟨ml, 1, none⟩ (.int .u64 ((j : Int) + 1))) K4.out.2 (fun x hx => by simp at hx; rw [hx]; exact hne) (((Touch.refl (fun y => y = ml) V).setCell _ _ fun _ => rfl).setCell _ _ fun _ => rfl) (by rw [s2, HLc.out]; rfl)
        exact this.drop (fun x hx => by simp at hx ⊢; simp [hx])
      have HIn : Hid (∀ V mu u, u = nextU back j → Kn W1 V q [(mu, unO u), (ml, idO lc j)] S → Calls Try.prog 9 #[sQ q, .agg #[u64 (u).c, u64 (u).k, u64 (u).lc, u64 (u).lk, u64 (u).rc, u64 (u).rk]] V fun e w' => e = .returned (.bool true) ∧ Kn W1 w' q [(mu, unO u), (ml, idO lc j)] S') := fun V mu u hu hK => by
        have := hK.insert u (by rw [hu]; exact Hok.out) HRo.out
        rw [hu, Hst.out.1, ← hS'.out, ← hu] at this
        exact this
      have HBl : Hid (∀ o, (V1.alloc o).cell? ⟨ml, 0, none⟩ = some (.int .u64 lc) ∧ (V1.alloc o).cell? ⟨ml, 1, none⟩ = some (.int .u64 j) ∧ V1.heap.size ≠ ml) := fun o => by
        have b := K1.out.2.2.1 (ml, idO lc j) (by simp)
        have c := idO_cells (heap_keep ((Touch.refl _ V1).alloc o) b)
        have := lt_of_heap b
        exact ⟨c.1, c.2, by simp only at this; omega⟩
      have HEnd : Hid (LS back S' (j + 1)) := by rw [hS'.out]; exact Hst.out.2
      have hgk : gk = (m - (j + 1)) + 1 := by have := hjg.out; omega
      clear hjg
      cases back
      · obtain ⟨z0, z1, -⟩ := HBl.out (.cells #[.int .u64 1, .int .u64 ((j : Int) + 1), .int .u64 0, .int .u64 0, .int .u64 0, .int .u64 0] 33)
        go_upto_region 13 with fail
        clear z0 z1
        obtain ⟨V2, hV2⟩ : ∃ W, Hid (W = V1.alloc (.cells #[.int .u64 1, .int .u64 ((j : Int) + 1), .int .u64 lc, .int .u64 j, .int .u64 0, .int .u64 0] 33)) := ⟨_, Eq.refl _⟩
        obtain ⟨mu, hmu⟩ : ∃ m, Hid (m = V1.heap.size) := ⟨_, Eq.refl _⟩
        have K2 : Hid (Kn W1 V2 q [(mu, unO ⟨1, (j : Int) + 1, lc, j, 0, 0⟩), (ml, idO lc j)] S) := by
          rw [hV2.out, hmu.out]
          exact K1.out.box (unO ⟨1, (j : Int) + 1, lc, j, 0, 0⟩)
        have HNe : Hid (mu ≠ ml) := by rw [hmu.out]; exact (HBl.out (unO ⟨1, (j : Int) + 1, lc, j, 0, 0⟩)).2.2
        rw [← hV2.out, ← hmu.out]
        clear hV2 hmu K1
        obtain ⟨a0, a1, a2, a3, a4, a5⟩ := unO_cells (K2.out.2.2.1 (mu, unO ⟨1, (j : Int) + 1, lc, j, 0, 0⟩) (by simp))
        go_wp2_with fail
        refine (HIn.out V2 mu ⟨1, (j : Int) + 1, lc, j, 0, 0⟩ (by rw [hlc.out]; rfl) K2.out).mono ?_
        rintro e V3 ⟨rfl, h3⟩
        obtain ⟨⟨b0, b1, b2, b3, b4, b5, b6⟩, k3⟩ := HFx.out V3 mu _ h3 rfl rfl HNe.out
        have K3 : Hid (Kn W1 ((V3.setCell ⟨ml, 0, none⟩ (.int .u64 1)).setCell ⟨ml, 1, none⟩ (.int .u64 ((j : Int) + 1))) q [(ml, idO (lcOf (j + 1)) ((j + 1 : Nat) : Int))] S') := k3
        clear h3 k3 a0 a1 a2 a3 a4 a5
        go_wp2_with fail
        go_roundg (m - (j + 1))
        case measure => omega
        case rel => exact ⟨j + 1, S', HJg.out, by rw [show ((j + 1 : Nat) : Int) + 1 = (j : Int) + 1 + 1 from by omega], K3.out, HEnd.out⟩
      · obtain ⟨z0, z1, -⟩ := HBl.out (.cells #[.int .u64 1, .int .u64 ((j : Int) + 1), .int .u64 0, .int .u64 0, .int .u64 0, .int .u64 0] 33)
        go_upto_region 13 with fail
        clear z0 z1
        obtain ⟨V2, hV2⟩ : ∃ W, Hid (W = V1.alloc (.cells #[.int .u64 1, .int .u64 ((j : Int) + 1), .int .u64 0, .int .u64 0, .int .u64 lc, .int .u64 j] 33)) := ⟨_, Eq.refl _⟩
        obtain ⟨mu, hmu⟩ : ∃ m, Hid (m = V1.heap.size) := ⟨_, Eq.refl _⟩
        have K2 : Hid (Kn W1 V2 q [(mu, unO ⟨1, (j : Int) + 1, 0, 0, lc, j⟩), (ml, idO lc j)] S) := by
          rw [hV2.out, hmu.out]
          exact K1.out.box (unO ⟨1, (j : Int) + 1, 0, 0, lc, j⟩)
        have HNe : Hid (mu ≠ ml) := by rw [hmu.out]; exact (HBl.out (unO ⟨1, (j : Int) + 1, 0, 0, lc, j⟩)).2.2
        rw [← hV2.out, ← hmu.out]
        clear hV2 hmu K1
        obtain ⟨a0, a1, a2, a3, a4, a5⟩ := unO_cells (K2.out.2.2.1 (mu, unO ⟨1, (j : Int) + 1, 0, 0, lc, j⟩) (by simp))
        go_wp2_with fail
        refine (HIn.out V2 mu ⟨1, (j : Int) + 1, 0, 0, lc, j⟩ (by rw [hlc.out]; rfl) K2.out).mono ?_
        rintro e V3 ⟨rfl, h3⟩
        obtain ⟨⟨b0, b1, b2, b3, b4, b5, b6⟩, k3⟩ := HFx.out V3 mu _ h3 rfl rfl HNe.out
        have K3 : Hid (Kn W1 ((V3.setCell ⟨ml, 0, none⟩ (.int .u64 1)).setCell ⟨ml, 1, none⟩ (.int .u64 ((j : Int) + 1))) q [(ml, idO (lcOf (j + 1)) ((j + 1 : Nat) : Int))] S') := k3
        clear h3 k3 a0 a1 a2 a3 a4 a5
        go_wp2_with fail
        go_roundg (m - (j + 1))
        case measure => omega
        case rel => exact ⟨j + 1, S', HJg.out, by rw [show ((j + 1 : Nat) : Int) + 1 = (j : Int) + 1 + 1 from by omega], K3.out, HEnd.out⟩
    · have hj : j = m := by have := hjg.out; omega
      subst hj
      have hlt : ¬ ((j : Int) + 1 ≤ (j : Int)) := by omega
      have KI : Hid (Kn W1 V0 q [] S ∧ LS back S j) := ⟨HI.out.1.drop (fun x hx => (List.not_mem_nil hx).elim), HI.out.2⟩
      clear HI hjg hjm K4
      go_wp2_with fail
      obtain ⟨d, hd⟩ : ∃ d : Nat, Hid (d = j / 20) := ⟨_, Eq.refl _⟩
      have hdq : (j : Int).tdiv 20 = (d : Int) := by rw [hd.out, Int.tdiv_eq_ediv_of_nonneg (by omega)]; omega
      have hdq2 : (j : Int) / 20 = (d : Int) := by rw [hd.out]; omega
      have ld : (d : Int) ≤ 75 := by rw [hd.out]; omega
      have ed : IntKind.i64.wrap (1 + (d : Int)) = 1 + (d : Int) := by rw [IntKind.wrap_i64]; omega
      go_loopg [9, 10] j (fun gk s9 s10 wx => ∃ k : Nat, Hid (gk = j + 1 - k) ∧ s9 = iV (k : Int) ∧ Hid (1 ≤ k ∧ k ≤ 3000) ∧ Hid (Kn W1 wx q [] S))
      case atStart => exact ⟨1, (by omega : j = j + 1 - 1), rfl, ⟨Nat.le_refl _, by omega⟩, KI.out.1⟩
      case round =>
        obtain ⟨k, hgk, rfl, HK1, HK⟩ := hrel
        obtain ⟨U0, hU0⟩ : ∃ X, X = wr := ⟨_, rfl⟩
        subst hU0
        by_cases hkj : k ≤ j
        · have lk : (k : Int) ≤ (j : Int) := by omega
          have lk1 : (1 : Int) ≤ (k : Int) := by have := HK1.out.1; omega
          have e1 : IntKind.i64.wrap ((k : Int) - 1) = (k : Int) - 1 := by rw [IntKind.wrap_i64]; omega
          have e2 : IntKind.i64.wrap ((j : Int) - (k : Int)) = (j : Int) - (k : Int) := by rw [IntKind.wrap_i64]; omega
          have e3 : IntKind.u64.wrap (k : Int) = (k : Int) := by rw [IntKind.wrap_u64]; omega
          have e4 : IntKind.i64.wrap ((k : Int) + (1 + (d : Int))) = (k : Int) + (1 + (d : Int)) := by rw [IntKind.wrap_i64]; omega
          have HFd : Hid (S.find 1 k = bif back then (j : Int) - k else (k : Int) - 1) := KI.out.2.find HK1.out.1 hkj
          have hgk2 : gk = j + 1 - k := hgk.out
          have HNx : Hid (j + 1 - (k + 1 + d) < gk ∧ 1 ≤ k + 1 + d ∧ k + 1 + d ≤ 3000) := by
            have := HK1.out
            have := HMi.out
            exact ⟨by omega, by omega, by omega⟩
          clear hgk hgk2 hkj
          cases back
          all_goals
            go_wp2_with fail
            refine (HK.out.id 1 (k : Int)).mono ?_
            rintro e U1 ⟨rfl, h1⟩
            have K1 : Hid (Kn W1 U1 q [] S) := h1
            clear h1
            have hfc := K1.out.find 1 (k : Int) (by omega) ⟨by omega, by omega⟩
            rw [HFd.out] at hfc
            go_wp2_with fail
            refine hfc.mono ?_
            rintro e U2 ⟨rfl, h2⟩
            have K2 : Hid (Kn W1 U2 q [] S) := h2
            clear h2 K1 hfc
            go_wp2_with fail
            go_roundg (j + 1 - (k + 1 + d))
            case measure => exact HNx.out.1
            case rel => exact ⟨k + 1 + d, rfl, by rw [show ((k + 1 + d : Nat) : Int) = (k : Int) + (1 + (d : Int)) from by omega], HNx.out.2, K2.out⟩
        · have lk : ¬ ((k : Int) ≤ (j : Int)) := by omega
          have hlc := HK.out.len
          rw [KI.out.2.total HMi.out.1] at hlc
          go_wp2_with fail
          refine hlc.mono ?_
          rintro e U1 ⟨rfl, h1⟩
          have HF : Hid (Touch (fun _ => False) w U1) := HT1.out.trans h1.2.1
          clear h1 hlc
          go_wp2_with fail
          go_ret
          exact ⟨rfl, HF.out⟩
end Go.Proofs.Ytdonhdmealhgiab
