/- Package seq's row: lift. -/
import Derived.Test.YtnilikomoapcaaaGreatSeqR3
import Derived.Test.YtnilikomoapcaaaGreatTreS
namespace Go.Proofs.YtnilikomoapcaaaGreat
open Go.RowKit
set_option linter.unusedVariables false
set_option linter.unusedSimpArgs false
set_option maxRecDepth 100000

theorem gt_hangL {L : List Th} {u s i : Nat} (hu : u < L.length) (hi : i < L.length) : gt (hangL L u s i) = hangA (gt L) u s i := by
  funext j
  unfold hangL hangA
  split
  · rw [gt_st hu]; rfl
  · rw [gt_st (by rw [st_len]; exact hi)]
    unfold upd
    by_cases e : j = i
    · subst e
      rw [if_pos rfl, if_pos rfl, gt_st hu]
    · rw [if_neg e, if_neg e, gt_st hu]
theorem gt_countL {L : List Th} {i : Nat} (hi : i < L.length) : gt (countL L i) = countA (gt L) i := by
  funext j
  unfold countL countA
  rw [gt_st hi]
  rfl
theorem countL_len (L : List Th) (i : Nat) : (countL L i).length = L.length := st_len _ _ _ _
/-- The numbers of a row are right ones: no sum of a few runs over. -/
def Tame (A : Nat → Th) : Prop := ∀ j, 0 ≤ (A j).long ∧ (A j).long ≤ 1152921504606846976 ∧ 0 ≤ (A j).whole ∧ (A j).whole ≤ 1152921504606846976
theorem Touch.fromFalse {w w' : World} {g : Nat} (t : Touch (fun _ => False) w w') : Touch (· = g) w w' := ⟨t.os, t.tape, t.output, t.size, fun k hk hn => t.block k hk id⟩
theorem Touch.transG {w w' w'' : World} {g : Nat} (t : Touch (· = g) w w') (t2 : Touch (· = g) w' w'') : Touch (· = g) w w'' := ⟨t2.os.trans t.os, t2.tape.trans t.tape, t2.output.trans t.output, Nat.le_trans t.size t2.size, fun k hk hn => (t2.block k (Nat.lt_of_lt_of_le hk t.size) hn).trans (t.block k hk hn)⟩
theorem wrap3 (n : Int) (h0 : 0 ≤ n) (h1 : n < 9223372036854775808) : IntKind.i64.wrap n = n := by rw [IntKind.wrap_i64]; omega
/-- count, at an array whose sums are right. -/
theorem count_at {w : World} {b k g cap : Nat} {L : List Th} (h : Things w b k g cap L) (i : Nat) (hi : i < L.length) (h0 : (gt L i).d0 < L.length) (h1 : (gt L i).d1 < L.length) (hn0 : (gt L i).d0 ≠ i) (hn1 : (gt L i).d1 ≠ i) (b1 : 0 ≤ (gt L (gt L i).d0).whole ∧ (gt L (gt L i).d0).whole ≤ 3458764513820540928) (b2 : 0 ≤ (gt L i).long ∧ (gt L i).long ≤ 1152921504606846976) (b3 : 0 ≤ (gt L (gt L i).d1).whole ∧ (gt L (gt L i).d1).whole ≤ 3458764513820540928) : Calls Tryz.prog 119 #[rP b k, iV (i : Int)] w fun e w' => e = .returned (.tuple #[]) ∧ Things w' b k g cap (countL L i) ∧ Touch (· = g) w w' := by
  rw [gt_of hi] at h0 h1 hn0 hn1 b1 b2 b3
  rw [gt_of h0] at b1
  rw [gt_of h1] at b3
  exact count_any h i hi h0 h1 hn0 hn1 (wrap3 _ (by omega) (by omega)) (wrap3 _ (by omega) (by omega))
theorem down_cell {W : World} {g i s : Nat} {A : Nat → Th} (hs : s < 2) (t1 : ThAt W g i (A i)) : W.cell? ⟨g, i * 5 + 1 + (1 - s), none⟩ = some (iV (downA A i (1 - s) : Int)) := by
  match s, hs with
  | 0, _ => exact t1.c2
  | 1, _ => exact t1.c1
theorem wrap_1s {s : Nat} (hs : s < 2) : IntKind.i64.wrap (1 - (s : Int)) = ((1 - s : Nat) : Int) := by
  match s, hs with
  | 0, _ => rfl
  | 1, _ => rfl
def SLft (b k g cap n x y : Nat) (W : World) : Prop := W.cell? ⟨b, k, none⟩ = some (.slice (some ⟨g, 0, none⟩) n cap) ∧ W.cell? ⟨g, x * 5, none⟩ = some (iV (y : Int))
set_option maxHeartbeats 8000000 in
theorem lift_any {w : World} {b k g cap : Nat} {L : List Th} (h : Things w b k g cap L) (i u q s m p : Nat) (hi : i < L.length) (hu : u < L.length) (hq : q < L.length) (hm : m < L.length)
    (e1 : (gt L i).up = u) (e2 : (gt L u).up = q) (e3 : sideA (gt L) i = s) (e4 : sideA (gt L) u = p) (e5 : downA (gt L) i (1 - s) = m) (hs : s < 2) (hp : p < 2) (ui : u ≠ i) (qi : q ≠ i) (qu : q ≠ u)
    (HC1 : ∀ W, Things W b k g cap (hangL (hangL (hangL L q p i) i (1 - s) u) u s m) → Calls Tryz.prog 119 #[rP b k, iV (u : Int)] W fun e w' => e = .returned (.tuple #[]) ∧ Things w' b k g cap (countL (hangL (hangL (hangL L q p i) i (1 - s) u) u s m) u) ∧ Touch (· = g) W w')
    (HC2 : ∀ W, Things W b k g cap (countL (hangL (hangL (hangL L q p i) i (1 - s) u) u s m) u) → Calls Tryz.prog 119 #[rP b k, iV (i : Int)] W fun e w' => e = .returned (.tuple #[]) ∧ Things w' b k g cap (countL (countL (hangL (hangL (hangL L q p i) i (1 - s) u) u s m) u) i) ∧ Touch (· = g) W w') :
    Calls Tryz.prog 98 #[rP b k, iV (i : Int)] w fun e w' => e = .returned (.tuple #[]) ∧ (∃ L', Things w' b k g cap L' ∧ L'.length = L.length ∧ gt L' = liftA (gt L) i) ∧ Touch (· = g) w w' := by
  obtain ⟨L1, hL1⟩ : ∃ l, Hid (l = hangL L q p i) := ⟨_, Eq.refl _⟩
  obtain ⟨L2, hL2⟩ : ∃ l, Hid (l = hangL L1 i (1 - s) u) := ⟨_, Eq.refl _⟩
  obtain ⟨L3, hL3⟩ : ∃ l, Hid (l = hangL L2 u s m) := ⟨_, Eq.refl _⟩
  obtain ⟨L4, hL4⟩ : ∃ l, Hid (l = countL L3 u) := ⟨_, Eq.refl _⟩
  obtain ⟨L5, hL5⟩ : ∃ l, Hid (l = countL L4 i) := ⟨_, Eq.refl _⟩
  have l1 : L1.length = L.length := by rw [hL1.out, hangL_len]
  have l2 : L2.length = L.length := by rw [hL2.out, hangL_len, l1]
  have l3 : L3.length = L.length := by rw [hL3.out, hangL_len, l2]
  have l4 : L4.length = L.length := by rw [hL4.out, countL_len, l3]
  have l5 : L5.length = L.length := by rw [hL5.out, countL_len, l4]
  rw [← hL1.out, ← hL2.out, ← hL3.out, ← hL4.out] at HC1 HC2
  rw [← hL5.out] at HC2
  have HE : Hid (L5.length = L.length ∧ gt L5 = liftA (gt L) i) := by
    refine ⟨l5, ?_⟩
    rw [hL5.out, gt_countL (by omega), hL4.out, gt_countL (by omega), hL3.out, gt_hangL (by omega) (by omega), hL2.out, gt_hangL (by omega) (by omega), hL1.out, gt_hangL hq hi]
    unfold liftA
    rw [e1, e2, e3, e4, e5]
  have HSi : Hid (∀ W, Things W b k g cap L → Calls Tryz.prog 73 #[rP b k, iV (i : Int)] W fun e w' => e = .returned (iV (s : Int)) ∧ Touch (fun _ => False) W w') := fun W hW => by
    have e1' := e1
    rw [gt_of hi] at e1'
    refine (side_any hW i hi (by rw [e1']; exact hu)).mono ?_
    rintro e w' ⟨rfl, t⟩
    refine ⟨?_, t⟩
    have : (if (L[L[i].up]'(by rw [e1']; exact hu)).d1 = i then (1 : Int) else 0) = (s : Int) := by
      rw [← e3]
      unfold sideA
      rw [gt_of hi, gt_of (by rw [e1']; exact hu)]
      split <;> rfl
    rw [this]
  have HSu : Hid (∀ W, Things W b k g cap L → Calls Tryz.prog 73 #[rP b k, iV (u : Int)] W fun e w' => e = .returned (iV (p : Int)) ∧ Touch (fun _ => False) W w') := fun W hW => by
    have e2' := e2
    rw [gt_of hu] at e2'
    refine (side_any hW u hu (by rw [e2']; exact hq)).mono ?_
    rintro e w' ⟨rfl, t⟩
    refine ⟨?_, t⟩
    have : (if (L[L[u].up]'(by rw [e2']; exact hq)).d1 = u then (1 : Int) else 0) = (p : Int) := by
      rw [← e4]
      unfold sideA
      rw [gt_of hu, gt_of (by rw [e2']; exact hq)]
      split <;> rfl
    rw [this]
  have HH1 : Hid (∀ W, Things W b k g cap L → Calls Tryz.prog 95 #[rP b k, iV (q : Int), iV (p : Int), iV (i : Int)] W fun e w' => e = .returned (.tuple #[]) ∧ Things w' b k g cap L1 ∧ Touch (· = g) W w') := fun W hW => by rw [hL1.out]; exact hang_any hW q p i hq hp hi
  have HH2 : Hid (∀ W, Things W b k g cap L1 → Calls Tryz.prog 95 #[rP b k, iV (i : Int), iV ((1 - s : Nat) : Int), iV (u : Int)] W fun e w' => e = .returned (.tuple #[]) ∧ Things w' b k g cap L2 ∧ Touch (· = g) W w') := fun W hW => by rw [hL2.out]; exact hang_any hW i (1 - s) u (by omega) (by omega) (by omega)
  have HH3 : Hid (∀ W, Things W b k g cap L2 → Calls Tryz.prog 95 #[rP b k, iV (u : Int), iV (s : Int), iV (m : Int)] W fun e w' => e = .returned (.tuple #[]) ∧ Things w' b k g cap L3 ∧ Touch (· = g) W w') := fun W hW => by rw [hL3.out]; exact hang_any hW u s m (by omega) hs (by omega)
  have HC1 : Hid _ := HC1
  have HC2 : Hid _ := HC2
  have HK1 : Hid (∀ W, Things W b k g cap L → SLft b k g cap L.length i u W ∧ SLft b k g cap L.length u q W ∧ W.cell? ⟨g, i * 5 + 1 + (1 - s), none⟩ = some (iV (m : Int))) := fun W hW => by
    have t1 := hW.th i hi
    have t2 := hW.th u hu
    rw [← gt_of hi] at t1
    rw [← gt_of hu] at t2
    refine ⟨⟨hW.cell, ?_⟩, ⟨hW.cell, ?_⟩, ?_⟩
    · have := t1.c0; rw [e1] at this; exact this
    · have := t2.c0; rw [e2] at this; exact this
    · rw [← e5]
      exact down_cell hs t1
  have HK2 : Hid (∀ W, Things W b k g cap L1 → SLft b k g cap L.length u q W) := fun W hW => by
    have t2 := hW.th u (by omega)
    rw [← gt_of (by omega)] at t2
    have hc := hW.cell
    rw [l1] at hc
    refine ⟨hc, ?_⟩
    have e : (gt L1 u).up = q := by
      rw [hL1.out, gt_hangL hq hi, hangA_ne (Ne.symm qu) (fun _ => ui)]
      exact e2
    have := t2.c0
    rw [e] at this
    exact this
  have HT0 : Hid (Things w.drew b k g cap L) := h.keep (S := fun _ => False) (Touch.refl _ _).drew id id
  have li : (i : Int) < (L.length : Int) := by omega
  have li0 : (0 : Int) ≤ (i : Int) := by omega
  have lu : (u : Int) < (L.length : Int) := by omega
  have lu0 : (0 : Int) ≤ (u : Int) := by omega
  have ws : IntKind.i64.wrap (1 - (s : Int)) = ((1 - s : Nat) : Int) := wrap_1s hs
  have w1 : ((1 - s : Nat) : Int) < 2 := by omega
  have w2 : (0 : Int) ≤ ((1 - s : Nat) : Int) := by omega
  clear e1 e2 e3 e4 e5 hL1 hL2 hL3 hL4 hL5 l1 l2 l3 l4 l5 h
  obtain ⟨ms, hms⟩ : ∃ ms : Nat, ms = 1 - s := ⟨_, rfl⟩
  rw [← hms] at ws w1 w2 HH2 HK1
  clear hms
  go_enter Tryz.func98, Tryz.ntmps98
  have hS0 := (HK1.out _ HT0.out).1
  generalize hn : L.length = n at *
  go_upto_region 0 with fail
  refine wp_region_held_drew (S := SLft b k g cap n i u) (by kernel_rfl) hS0 (fun hHeld => ?_)
  clear hS0
  refine wpAnyH_take (i := 0) (oi := { dst := some 7, op := Go.Op.move (Go.Operand.tmp 0), type := 132, pos := "row.go:148", after := #[], guard := none }) (v := rP b k) rfl (by kernel_rfl) (by kernel_rfl) (by kernel_rfl) (fun _ _ _ h => h) (Or.inl ⟨by rfl, ?_⟩) hHeld ?_
  · intro w hSw; clear hSw; go_simp
  simp only [Act.put, List.setIfInBounds_toArray, List.set_cons_succ, List.set_cons_zero]
  refine wpAnyH_take (i := 1) (oi := { dst := some 8, op := Go.Op.nilCheck (Go.Operand.tmp 7), type := 0, pos := "row.go:148", after := #[{ on := 0, ground := Go.Ground.data }], guard := none }) (v := .pointer (some ⟨b, k, none⟩)) rfl (by kernel_rfl) (by kernel_rfl) (by kernel_rfl) (fun _ _ _ h => h) (Or.inl ⟨by rfl, ?_⟩) hHeld ?_
  · intro w hSw; clear hSw; go_simp
  simp only [Act.put, List.setIfInBounds_toArray, List.set_cons_succ, List.set_cons_zero]
  refine wpAnyH_take (i := 2) (oi := { dst := some 9, op := Go.Op.fieldAddr 71 (Go.Operand.tmp 8) 0, type := 0, pos := "row.go:148", after := #[{ on := 1, ground := Go.Ground.data }], guard := none }) (v := .pointer (some ⟨b, k, none⟩)) rfl (by kernel_rfl) (by kernel_rfl) (by kernel_rfl) (fun _ _ _ h => h) (Or.inl ⟨by rfl, ?_⟩) hHeld ?_
  · intro w hSw; clear hSw; go_simp
  simp only [Act.put, List.setIfInBounds_toArray, List.set_cons_succ, List.set_cons_zero]
  refine wpAnyH_take (i := 3) (oi := { dst := some 10, op := Go.Op.load 69 (Go.Operand.tmp 9), type := 69, pos := "row.go:148", after := #[{ on := 2, ground := Go.Ground.data }], guard := none }) (v := .slice (some ⟨g, 0, none⟩) n cap) rfl (by kernel_rfl) (by kernel_rfl) (by kernel_rfl) (fun _ _ _ h => h) (Or.inl ⟨by rfl, ?_⟩) hHeld ?_
  · intro w hSw; obtain ⟨s1, s2⟩ := hSw; go_simp
  simp only [Act.put, List.setIfInBounds_toArray, List.set_cons_succ, List.set_cons_zero]
  refine wpAnyH_take (i := 4) (oi := { dst := some 11, op := Go.Op.move (Go.Operand.tmp 1), type := 3, pos := "row.go:148", after := #[], guard := none }) (v := iV (i : Int)) rfl (by kernel_rfl) (by kernel_rfl) (by kernel_rfl) (fun _ _ _ h => h) (Or.inl ⟨by rfl, ?_⟩) hHeld ?_
  · intro w hSw; clear hSw; go_simp
  simp only [Act.put, List.setIfInBounds_toArray, List.set_cons_succ, List.set_cons_zero]
  refine wpAnyH_take (i := 5) (oi := { dst := some 12, op := Go.Op.indexAddr 69 (Go.Operand.tmp 10) (Go.Operand.tmp 11), type := 0, pos := "row.go:148", after := #[{ on := 3, ground := Go.Ground.data }, { on := 4, ground := Go.Ground.data }], guard := none }) (v := .pointer (some ⟨g, i * 5, none⟩)) rfl (by kernel_rfl) (by kernel_rfl) (by kernel_rfl) (fun _ _ _ h => h) (Or.inl ⟨by rfl, ?_⟩) hHeld ?_
  · intro w hSw; clear hSw; go_simp
  simp only [Act.put, List.setIfInBounds_toArray, List.set_cons_succ, List.set_cons_zero]
  refine wpAnyH_take (i := 6) (oi := { dst := some 13, op := Go.Op.fieldAddr 111 (Go.Operand.tmp 12) 0, type := 0, pos := "row.go:148", after := #[{ on := 5, ground := Go.Ground.data }], guard := none }) (v := .pointer (some ⟨g, i * 5, none⟩)) rfl (by kernel_rfl) (by kernel_rfl) (by kernel_rfl) (fun _ _ _ h => h) (Or.inl ⟨by rfl, ?_⟩) hHeld ?_
  · intro w hSw; clear hSw; go_simp
  simp only [Act.put, List.setIfInBounds_toArray, List.set_cons_succ, List.set_cons_zero]
  refine wpAnyH_take (i := 7) (oi := { dst := some 14, op := Go.Op.load 3 (Go.Operand.tmp 13), type := 3, pos := "row.go:148", after := #[{ on := 6, ground := Go.Ground.data }], guard := none }) (v := iV (u : Int)) rfl (by kernel_rfl) (by kernel_rfl) (by kernel_rfl) (fun _ _ _ h => h) (Or.inl ⟨by rfl, ?_⟩) hHeld ?_
  · intro w hSw; obtain ⟨s1, s2⟩ := hSw; go_simp
  simp only [Act.put, List.setIfInBounds_toArray, List.set_cons_succ, List.set_cons_zero]
  refine wpAnyH_take (i := 8) (oi := { dst := some 15, op := Go.Op.move (Go.Operand.tmp 0), type := 132, pos := "row.go:148", after := #[], guard := none }) (v := rP b k) rfl (by kernel_rfl) (by kernel_rfl) (by kernel_rfl) (fun _ _ _ h => h) (Or.inl ⟨by rfl, ?_⟩) hHeld ?_
  · intro w hSw; clear hSw; go_simp
  simp only [Act.put, List.setIfInBounds_toArray, List.set_cons_succ, List.set_cons_zero]
  refine wpAnyH_take (i := 9) (oi := { dst := some 16, op := Go.Op.move (Go.Operand.tmp 1), type := 3, pos := "row.go:148", after := #[], guard := none }) (v := iV (i : Int)) rfl (by kernel_rfl) (by kernel_rfl) (by kernel_rfl) (fun _ _ _ h => h) (Or.inl ⟨by rfl, ?_⟩) hHeld ?_
  · intro w hSw; clear hSw; go_simp
  simp only [Act.put, List.setIfInBounds_toArray, List.set_cons_succ, List.set_cons_zero]
  refine wpAnyH_ready (rs := [10]) (by kernel_rfl) (by simp) ?_
  refine AllReadyH.cons (o := { dst := some 17, op := Go.Op.call { callee := Go.Callee.value (Go.Operand.func 73), args := #[Go.Operand.tmp 15, Go.Operand.tmp 16], argTypes := #[132, 3] }, type := 3, pos := "row.go:148", after := #[{ on := 8, ground := Go.Ground.data }, { on := 9, ground := Go.Ground.data }], guard := none }) rfl (fun K hK => ?_) AllReadyH.nil
  go_simp
  refine (HSi.out _ HT0.out).mono ?_
  rintro e W1 ⟨rfl, t⟩
  have HT1 : Hid (Things W1 b k g cap L ∧ Touch (fun _ => False) w W1) := ⟨HT0.out.keep t id id, Touch.trans (Touch.refl _ _).drew t⟩
  have hS2 := (HK1.out _ HT1.out.1).1
  clear t HT0
  refine hK.out _ _ hS2 (fun hHeld => ?_)
  clear hK K hS2
  refine wpAnyH_take (i := 11) (oi := { dst := some 4, op := Go.Op.assign (Go.Operand.tmp 14), type := 3, pos := "row.go:148", after := #[{ on := 7, ground := Go.Ground.data }, { on := 10, ground := Go.Ground.chain }, { on := 0, ground := Go.Ground.phase }, { on := 1, ground := Go.Ground.phase }, { on := 2, ground := Go.Ground.phase }, { on := 3, ground := Go.Ground.phase }, { on := 4, ground := Go.Ground.phase }, { on := 5, ground := Go.Ground.phase }, { on := 6, ground := Go.Ground.phase }, { on := 7, ground := Go.Ground.phase }, { on := 8, ground := Go.Ground.textOnly Go.Departure.lateStores }, { on := 9, ground := Go.Ground.textOnly Go.Departure.lateStores }, { on := 10, ground := Go.Ground.textOnly Go.Departure.lateStoresUnsure }], guard := none }) (v := iV (u : Int)) rfl (by kernel_rfl) (by kernel_rfl) (by kernel_rfl) (fun _ _ _ h => h) (Or.inl ⟨by rfl, ?_⟩) hHeld ?_
  · intro w hSw; clear hSw; go_simp
  simp only [Act.put, List.setIfInBounds_toArray, List.set_cons_succ, List.set_cons_zero]
  refine wpAnyH_take (i := 12) (oi := { dst := some 5, op := Go.Op.assign (Go.Operand.tmp 17), type := 3, pos := "row.go:148", after := #[{ on := 10, ground := Go.Ground.data }, { on := 11, ground := Go.Ground.chain }, { on := 0, ground := Go.Ground.phase }, { on := 1, ground := Go.Ground.phase }, { on := 2, ground := Go.Ground.phase }, { on := 3, ground := Go.Ground.phase }, { on := 4, ground := Go.Ground.phase }, { on := 5, ground := Go.Ground.phase }, { on := 6, ground := Go.Ground.phase }, { on := 7, ground := Go.Ground.phase }, { on := 8, ground := Go.Ground.phase }, { on := 9, ground := Go.Ground.phase }, { on := 10, ground := Go.Ground.phase }, { on := 11, ground := Go.Ground.phase }], guard := none }) (v := iV (s : Int)) rfl (by kernel_rfl) (by kernel_rfl) (by kernel_rfl) (fun _ _ _ h => h) (Or.inl ⟨by rfl, ?_⟩) hHeld ?_
  · intro w hSw; clear hSw; go_simp
  simp only [Act.put, List.setIfInBounds_toArray, List.set_cons_succ, List.set_cons_zero]
  refine wpAnyH_done (by kernel_rfl) ?_ _
  try simp only [List.getElem_toArray, List.getElem_cons_succ, List.getElem_cons_zero, List.setIfInBounds_toArray, List.set_cons_succ, List.set_cons_zero]
  clear hHeld
  have hk := HK1.out _ HT1.out.1
  have kc := hk.1.1
  have km := hk.2.2
  clear hk
  go_upto_region 2 with fail
  clear kc km
  have HT2 : Hid (Things W1.drew b k g cap L ∧ Touch (fun _ => False) w W1.drew) := ⟨HT1.out.1.keep (S := fun _ => False) (Touch.refl _ _).drew id id, HT1.out.2.drew⟩
  have hS0 := (HK1.out _ HT2.out.1).2.1
  refine wp_region_held_drew (S := SLft b k g cap n u q) (by kernel_rfl) hS0 (fun hHeld => ?_)
  clear hS0 HT1
  refine wpAnyH_take (i := 0) (oi := { dst := some 29, op := Go.Op.move (Go.Operand.tmp 0), type := 132, pos := "row.go:150", after := #[], guard := none }) (v := rP b k) rfl (by kernel_rfl) (by kernel_rfl) (by kernel_rfl) (fun _ _ _ h => h) (Or.inl ⟨by rfl, ?_⟩) hHeld ?_
  · intro w hSw; clear hSw; go_simp
  simp only [Act.put, List.setIfInBounds_toArray, List.set_cons_succ, List.set_cons_zero]
  refine wpAnyH_take (i := 1) (oi := { dst := some 30, op := Go.Op.move (Go.Operand.tmp 0), type := 132, pos := "row.go:150", after := #[], guard := none }) (v := rP b k) rfl (by kernel_rfl) (by kernel_rfl) (by kernel_rfl) (fun _ _ _ h => h) (Or.inl ⟨by rfl, ?_⟩) hHeld ?_
  · intro w hSw; clear hSw; go_simp
  simp only [Act.put, List.setIfInBounds_toArray, List.set_cons_succ, List.set_cons_zero]
  refine wpAnyH_take (i := 2) (oi := { dst := some 31, op := Go.Op.nilCheck (Go.Operand.tmp 30), type := 0, pos := "row.go:150", after := #[{ on := 1, ground := Go.Ground.data }], guard := none }) (v := .pointer (some ⟨b, k, none⟩)) rfl (by kernel_rfl) (by kernel_rfl) (by kernel_rfl) (fun _ _ _ h => h) (Or.inl ⟨by rfl, ?_⟩) hHeld ?_
  · intro w hSw; clear hSw; go_simp
  simp only [Act.put, List.setIfInBounds_toArray, List.set_cons_succ, List.set_cons_zero]
  refine wpAnyH_take (i := 3) (oi := { dst := some 32, op := Go.Op.fieldAddr 71 (Go.Operand.tmp 31) 0, type := 0, pos := "row.go:150", after := #[{ on := 2, ground := Go.Ground.data }], guard := none }) (v := .pointer (some ⟨b, k, none⟩)) rfl (by kernel_rfl) (by kernel_rfl) (by kernel_rfl) (fun _ _ _ h => h) (Or.inl ⟨by rfl, ?_⟩) hHeld ?_
  · intro w hSw; clear hSw; go_simp
  simp only [Act.put, List.setIfInBounds_toArray, List.set_cons_succ, List.set_cons_zero]
  refine wpAnyH_take (i := 4) (oi := { dst := some 33, op := Go.Op.load 69 (Go.Operand.tmp 32), type := 69, pos := "row.go:150", after := #[{ on := 3, ground := Go.Ground.data }], guard := none }) (v := .slice (some ⟨g, 0, none⟩) n cap) rfl (by kernel_rfl) (by kernel_rfl) (by kernel_rfl) (fun _ _ _ h => h) (Or.inl ⟨by rfl, ?_⟩) hHeld ?_
  · intro w hSw; obtain ⟨s1, s2⟩ := hSw; go_simp
  simp only [Act.put, List.setIfInBounds_toArray, List.set_cons_succ, List.set_cons_zero]
  refine wpAnyH_take (i := 5) (oi := { dst := some 34, op := Go.Op.move (Go.Operand.tmp 4), type := 3, pos := "row.go:150", after := #[], guard := none }) (v := iV (u : Int)) rfl (by kernel_rfl) (by kernel_rfl) (by kernel_rfl) (fun _ _ _ h => h) (Or.inl ⟨by rfl, ?_⟩) hHeld ?_
  · intro w hSw; clear hSw; go_simp
  simp only [Act.put, List.setIfInBounds_toArray, List.set_cons_succ, List.set_cons_zero]
  refine wpAnyH_take (i := 6) (oi := { dst := some 35, op := Go.Op.indexAddr 69 (Go.Operand.tmp 33) (Go.Operand.tmp 34), type := 0, pos := "row.go:150", after := #[{ on := 4, ground := Go.Ground.data }, { on := 5, ground := Go.Ground.data }], guard := none }) (v := .pointer (some ⟨g, u * 5, none⟩)) rfl (by kernel_rfl) (by kernel_rfl) (by kernel_rfl) (fun _ _ _ h => h) (Or.inl ⟨by rfl, ?_⟩) hHeld ?_
  · intro w hSw; clear hSw; go_simp
  simp only [Act.put, List.setIfInBounds_toArray, List.set_cons_succ, List.set_cons_zero]
  refine wpAnyH_take (i := 7) (oi := { dst := some 36, op := Go.Op.fieldAddr 111 (Go.Operand.tmp 35) 0, type := 0, pos := "row.go:150", after := #[{ on := 6, ground := Go.Ground.data }], guard := none }) (v := .pointer (some ⟨g, u * 5, none⟩)) rfl (by kernel_rfl) (by kernel_rfl) (by kernel_rfl) (fun _ _ _ h => h) (Or.inl ⟨by rfl, ?_⟩) hHeld ?_
  · intro w hSw; clear hSw; go_simp
  simp only [Act.put, List.setIfInBounds_toArray, List.set_cons_succ, List.set_cons_zero]
  refine wpAnyH_take (i := 8) (oi := { dst := some 37, op := Go.Op.load 3 (Go.Operand.tmp 36), type := 3, pos := "row.go:150", after := #[{ on := 7, ground := Go.Ground.data }], guard := none }) (v := iV (q : Int)) rfl (by kernel_rfl) (by kernel_rfl) (by kernel_rfl) (fun _ _ _ h => h) (Or.inl ⟨by rfl, ?_⟩) hHeld ?_
  · intro w hSw; obtain ⟨s1, s2⟩ := hSw; go_simp
  simp only [Act.put, List.setIfInBounds_toArray, List.set_cons_succ, List.set_cons_zero]
  refine wpAnyH_take (i := 9) (oi := { dst := some 38, op := Go.Op.move (Go.Operand.tmp 0), type := 132, pos := "row.go:150", after := #[], guard := none }) (v := rP b k) rfl (by kernel_rfl) (by kernel_rfl) (by kernel_rfl) (fun _ _ _ h => h) (Or.inl ⟨by rfl, ?_⟩) hHeld ?_
  · intro w hSw; clear hSw; go_simp
  simp only [Act.put, List.setIfInBounds_toArray, List.set_cons_succ, List.set_cons_zero]
  refine wpAnyH_take (i := 10) (oi := { dst := some 39, op := Go.Op.move (Go.Operand.tmp 4), type := 3, pos := "row.go:150", after := #[], guard := none }) (v := iV (u : Int)) rfl (by kernel_rfl) (by kernel_rfl) (by kernel_rfl) (fun _ _ _ h => h) (Or.inl ⟨by rfl, ?_⟩) hHeld ?_
  · intro w hSw; clear hSw; go_simp
  simp only [Act.put, List.setIfInBounds_toArray, List.set_cons_succ, List.set_cons_zero]
  refine wpAnyH_take (i := 12) (oi := { dst := some 41, op := Go.Op.move (Go.Operand.tmp 1), type := 3, pos := "row.go:150", after := #[], guard := none }) (v := iV (i : Int)) rfl (by kernel_rfl) (by kernel_rfl) (by kernel_rfl) (fun _ _ _ h => h) (Or.inl ⟨by rfl, ?_⟩) hHeld ?_
  · intro w hSw; clear hSw; go_simp
  simp only [Act.put, List.setIfInBounds_toArray, List.set_cons_succ, List.set_cons_zero]
  refine wpAnyH_ready (rs := [11]) (by kernel_rfl) (by simp) ?_
  refine AllReadyH.cons (o := { dst := some 40, op := Go.Op.call { callee := Go.Callee.value (Go.Operand.func 73), args := #[Go.Operand.tmp 38, Go.Operand.tmp 39], argTypes := #[132, 3] }, type := 3, pos := "row.go:150", after := #[{ on := 9, ground := Go.Ground.data }, { on := 10, ground := Go.Ground.data }], guard := none }) rfl (fun K hK => ?_) AllReadyH.nil
  go_simp
  refine (HSu.out _ HT2.out.1).mono ?_
  rintro e W3 ⟨rfl, t⟩
  have HT3 : Hid (Things W3 b k g cap L ∧ Touch (fun _ => False) w W3) := ⟨HT2.out.1.keep t id id, HT2.out.2.trans t⟩
  have hS2 := (HK1.out _ HT3.out.1).2.1
  clear t HT2
  refine hK.out _ _ hS2 (fun hHeld => ?_)
  clear hK K hS2
  refine wpAnyH_ready (rs := [13]) (by kernel_rfl) (by simp) ?_
  refine AllReadyH.cons (o := { dst := some 42, op := Go.Op.call { callee := Go.Callee.value (Go.Operand.func 95), args := #[Go.Operand.tmp 29, Go.Operand.tmp 37, Go.Operand.tmp 40, Go.Operand.tmp 41], argTypes := #[132, 3, 3, 3] }, type := 0, pos := "row.go:150", after := #[{ on := 0, ground := Go.Ground.data }, { on := 8, ground := Go.Ground.data }, { on := 11, ground := Go.Ground.data }, { on := 12, ground := Go.Ground.data }, { on := 11, ground := Go.Ground.chain }], guard := none }) rfl (fun K hK => ?_) AllReadyH.nil
  go_simp
  refine (HH1.out _ HT3.out.1).mono ?_
  rintro e W4 ⟨rfl, hW4, t⟩
  have HT4 : Hid (Things W4 b k g cap L1 ∧ Touch (· = g) w W4) := ⟨hW4, (Touch.fromFalse HT3.out.2).transG t⟩
  have hS2 := HK2.out _ HT4.out.1
  clear t hW4 HT3
  refine hK.out _ _ hS2 (fun hHeld => ?_)
  clear hK K hS2
  refine wpAnyH_done (by kernel_rfl) ?_ _
  try simp only [List.getElem_toArray, List.getElem_cons_succ, List.getElem_cons_zero, List.setIfInBounds_toArray, List.set_cons_succ, List.set_cons_zero]
  clear hHeld
  go_wp2_with fail
  refine (HH2.out _ HT4.out.1).mono ?_
  rintro e W5 ⟨rfl, hW5, t⟩
  have HT5 : Hid (Things W5 b k g cap L2 ∧ Touch (· = g) w W5) := ⟨hW5, HT4.out.2.transG t⟩
  clear t hW5 HT4
  go_wp2_with fail
  refine (HH3.out _ HT5.out.1).mono ?_
  rintro e W6 ⟨rfl, hW6, t⟩
  have HT6 : Hid (Things W6 b k g cap L3 ∧ Touch (· = g) w W6) := ⟨hW6, HT5.out.2.transG t⟩
  clear t hW6 HT5
  go_wp2_with fail
  refine (HC1.out _ HT6.out.1).mono ?_
  rintro e W7 ⟨rfl, hW7, t⟩
  have HT7 : Hid (Things W7 b k g cap L4 ∧ Touch (· = g) w W7) := ⟨hW7, HT6.out.2.transG t⟩
  clear t hW7 HT6
  go_wp2_with fail
  refine (HC2.out _ HT7.out.1).mono ?_
  rintro e W8 ⟨rfl, hW8, t⟩
  have HT8 : Hid (Things W8 b k g cap L5 ∧ Touch (· = g) w W8) := ⟨hW8, HT7.out.2.transG t⟩
  clear t hW8 HT7
  go_wp2_with fail
  go_end0
  exact ⟨rfl, ⟨L5, HT8.out.1, HE.out⟩, HT8.out.2⟩
end Go.Proofs.YtnilikomoapcaaaGreat
