/- Package maps: (rank).from. -/
import Derived.Test.YtodpdcflbnomgaaGreatPart5
import Derived.Test.YtodpdcflbnomgaaGreatPart2
import Derived.BigQuiet
import Derived.Deep.MidRow
import Derived.Test.YtodpdcflbnomgaaGreatOnlyR
import Derived.Deep.RegionHeld3
namespace Go.Proofs.YtodpdcflbnomgaaGreat
open Go.RowKit
set_option linter.unusedVariables false
set_option linter.unusedSimpArgs false
set_option maxRecDepth 100000

theorem Touch.drew_left2 {S : Nat → Prop} {a b : World} (h : Touch S a.drew b) : Touch S a b := ⟨h.os, h.tape, h.output, h.size, h.block⟩
/-- from, as a function. -/
def fromO (sh : Int → Int → Bool) (r : List O) (i : Nat) : Int := @Heap.fromN O ⟨zeroO⟩ lessM (fun o => sh o.c o.k) r i
theorem fromO_eq (sh : Int → Int → Bool) (r : List O) (i : Nat) : fromO sh r i = if r.length ≤ i then -1 else if sh (r.getD i zeroO).c (r.getD i zeroO).k = true then (i : Int) else
    if fromO sh r (2 * i + 1) < 0 ∨ (0 ≤ fromO sh r (2 * i + 2) ∧ lessM (r.getD (fromO sh r (2 * i + 1)).toNat zeroO) (r.getD (fromO sh r (2 * i + 2)).toNat zeroO) = true) then fromO sh r (2 * i + 2) else fromO sh r (2 * i + 1) := by
  have e := @Heap.fromN.eq_1 O ⟨zeroO⟩ lessM (fun o => sh o.c o.k) r i
  unfold fromO
  by_cases h : r.length ≤ i
  · rw [if_pos h]; rw [dif_pos h] at e; exact e
  · rw [if_neg h]; rw [dif_neg h] at e; exact e
theorem fromO_lt (sh : Int → Int → Bool) (r : List O) : ∀ (m i : Nat), r.length - i ≤ m → -1 ≤ fromO sh r i ∧ fromO sh r i < r.length := by
  intro m
  induction m with
  | zero => intro i hi; rw [fromO_eq, if_pos (by omega)]; omega
  | succ m ih =>
    intro i hi
    rw [fromO_eq]
    by_cases h : r.length ≤ i
    · rw [if_pos h]; omega
    · rw [if_neg h]
      have h1 := ih (2 * i + 1) (by omega)
      have h2 := ih (2 * i + 2) (by omega)
      split
      · omega
      · split
        · exact h2
        · exact h1
theorem rowO_at (r : List O) (i : Nat) (h : i < r.length) : r.getD i zeroO = r[i] := by rw [List.getD_eq_getElem?_getD, List.getElem?_eq_getElem h]; rfl
set_option maxHeartbeats 16000000 in
theorem from_any (r : List O) (g : Nat) (v : Value) (sh : Int → Int → Bool) (w : World) (hs : SlP w v r) (hl : r.length ≤ 1073741824)
    (hf : ∀ W c k, Touch (fun _ => False) w W → Calls Tryz.prog 25 #[.pointer (some ⟨g, 0, none⟩), idV c k] W fun e w' => e = .returned (.bool (sh c k)) ∧ Touch (fun _ => False) W w') :
    ∀ (m i : Nat), r.length - i ≤ m → i ≤ 2147483650 → ∀ W, Touch (fun _ => False) w W → Calls Tryz.prog 44 #[v, .int .i64 (i : Int), .func (.func 25) #[.pointer (some ⟨g, 0, none⟩)] #[]] W fun e w' => e = .returned (.int .i64 (fromO sh r i)) ∧ Touch (fun _ => False) W w' := by
  intro m
  induction m with
  | zero =>
    intro i hi hi2 W hW
    have HX : Hid (fromO sh r i = -1) := by rw [Hid, fromO_eq, if_pos (by omega)]
    rw [HX.out]
    obtain ⟨ao, cap, rfl, h1, h2, h3⟩ := hs.shape
    have l1 : (r.length : Int) ≤ (i : Int) := by omega
    clear HX hf hi hl h1 h2 h3 hs
    generalize r.length = N at *
    go_enter Tryz.func44, Tryz.ntmps44
    go_wp2_with fail
    go_ret
    exact ⟨rfl, Touch.refl _ _⟩
  | succ m ih =>
    intro i hi hi2 W hW
    by_cases hlen : r.length ≤ i
    · have HX : Hid (fromO sh r i = -1) := by rw [Hid, fromO_eq, if_pos hlen]
      rw [HX.out]
      obtain ⟨ao, cap, rfl, h1, h2, h3⟩ := hs.shape
      have l1 : (r.length : Int) ≤ (i : Int) := by omega
      clear HX hf hi hl h1 h2 h3 hs hlen ih
      generalize r.length = N at *
      go_enter Tryz.func44, Tryz.ntmps44
      go_wp2_with fail
      go_ret
      exact ⟨rfl, Touch.refl _ _⟩
    · have hi' : i < r.length := by omega
      have hne : r ≠ [] := by rintro rfl; simp at hi'
      obtain ⟨b, o, cap, rfl, hcap, hcm, hrow⟩ := hs.row hne
      have hblt : b < w.heap.size := by
        have := hrow i hi' 0 (.int .u64 r[i].c) rfl
        exact World.block_lt_of_cell? _ _ this
      have HRW : Hid (∀ (W : World), Touch (fun _ => False) w W → ∀ j (h : j < r.length), W.rangeAt b (o + j * 22) r[j].vals.toList) := fun W t j h i u hu => by
        rw [World.cell?_of_block (t.block _ hblt id)]; exact hrow j h i u hu
      have HI0 := HRW.out W hW i hi'
      have c0 : W.cell? ⟨b, o + i * 22, none⟩ = some (.int .u64 r[i].c) := HI0 0 _ rfl
      have c1 : W.cell? ⟨b, o + i * 22 + 1, none⟩ = some (.int .u64 r[i].k) := HI0 1 _ rfl
      have HF := hf W r[i].c r[i].k hW
      have HX : Hid (fromO sh r i = if sh r[i].c r[i].k = true then (i : Int) else
          if fromO sh r (2 * i + 1) < 0 ∨ (0 ≤ fromO sh r (2 * i + 2) ∧ lessM (r.getD (fromO sh r (2 * i + 1)).toNat zeroO) (r.getD (fromO sh r (2 * i + 2)).toNat zeroO) = true) then fromO sh r (2 * i + 2) else fromO sh r (2 * i + 1)) := by
        rw [Hid, fromO_eq, if_neg hlen, rowO_at r i hi']
      have HL1 := fromO_lt sh r r.length (2 * i + 1) (by omega)
      have HL2 := fromO_lt sh r r.length (2 * i + 2) (by omega)
      have HA := fun W t => ih (2 * i + 1) (by omega) (by omega) W t
      have HB := fun W t => ih (2 * i + 2) (by omega) (by omega) W t
      have HLe : Hid (∀ x y, ∀ W, Calls Tryz.prog 55 #[O.val x, O.val y] W fun e w' => e = .returned (.bool (lessM x y)) ∧ Touch (fun _ => False) W w') := fun x y W => mless_any x y W
      generalize fromO sh r (2 * i + 1) = A1 at *
      generalize fromO sh r (2 * i + 2) = A2 at *
      generalize fromO sh r i = A0 at *
      have HW0 : Hid (Touch (fun _ => False) w W) := hW
      have l1 : (i : Int) < (r.length : Int) := by omega
      have l0 : (0 : Int) ≤ (i : Int) := by omega
      have l2 : (i : Int) ≤ 1073741824 := by omega
      obtain ⟨N, hN⟩ : ∃ N, N = r.length := ⟨_, rfl⟩
      rw [← hN] at hl l1 HL1 HL2 hi' hcap HA HB ⊢
      have HNn : Hid (N = r.length) := hN
      generalize hsc : sh r[i].c r[i].k = sc at *
      generalize r[i].c = ic at *
      generalize r[i].k = ik at *
      clear hN hrow hblt HI0 hne hs hf hlen hi hi2 ih hW hsc
      have HA' : Hid (∀ W, Touch (fun _ => False) w W → Calls Tryz.prog 44 #[.slice (some ⟨b, o, none⟩) N cap, .int .i64 (2 * (i : Int) + 1), .func (.func 25) #[.pointer (some ⟨g, 0, none⟩)] #[]] W fun e w' => e = .returned (.int .i64 A1) ∧ Touch (fun _ => False) W w') := fun W t => by
        have := HA W t
        rw [show ((2 * i + 1 : Nat) : Int) = 2 * (i : Int) + 1 by omega] at this
        exact this
      have HB' : Hid (∀ W, Touch (fun _ => False) w W → Calls Tryz.prog 44 #[.slice (some ⟨b, o, none⟩) N cap, .int .i64 (2 * (i : Int) + 2), .func (.func 25) #[.pointer (some ⟨g, 0, none⟩)] #[]] W fun e w' => e = .returned (.int .i64 A2) ∧ Touch (fun _ => False) W w') := fun W t => by
        have := HB W t
        rw [show ((2 * i + 2 : Nat) : Int) = 2 * (i : Int) + 2 by omega] at this
        exact this
      clear HA HB
      cases sc with
      | true =>
        have HX1 : Hid (A0 = i) := by rw [Hid, HX.out, if_pos rfl]
        clear HX HL1 HL2
        go_enter Tryz.func44, Tryz.ntmps44
        go_wp2_with fail
        refine HF.mono ?_
        rintro e W1 ⟨rfl, t1⟩
        have HT1 : Hid (Touch (fun _ => False) W W1) := t1
        clear t1 HF c0 c1
        go_wp2_with fail
        go_ret
        exact ⟨by rw [HX1.out]; rfl, HT1.out⟩
      | false =>
        have HX1 : Hid (A0 = if A1 < 0 ∨ (0 ≤ A2 ∧ lessM (r.getD A1.toNat zeroO) (r.getD A2.toNat zeroO) = true) then A2 else A1) := by rw [Hid, HX.out, if_neg (by simp)]
        clear HX
        go_enter Tryz.func44, Tryz.ntmps44
        go_wp2_with fail
        refine HF.mono ?_
        rintro e W1 ⟨rfl, t1⟩
        have HT1 : Hid (Touch (fun _ => False) W W1) := t1
        clear t1 HF c0 c1
        go_wp2_with fail
        refine (HA'.out _ (HW0.out.trans HT1.out)).mono ?_
        rintro e W2 ⟨rfl, t2⟩
        have HT2 : Hid (Touch (fun _ => False) W W2) := HT1.out.trans t2
        clear t2 HA' HT1
        go_wp2_with fail
        refine (HB'.out _ (HW0.out.trans HT2.out)).mono ?_
        rintro e W3 ⟨rfl, t3⟩
        have HT3 : Hid (Touch (fun _ => False) W W3) := HT2.out.trans t3
        clear t3 HB' HT2
        by_cases h1 : A1 < 0
        · have HX2 : Hid (A0 = A2) := by rw [Hid, HX1.out, if_pos (.inl h1)]
          have d1 : decide (A1 < 0) = true := by simpa using h1
          clear HX1 HL1 HL2
          go_wp2_with fail
          go_quiet (fail)
          go_wp2_with fail
          go_ret
          exact ⟨by rw [HX2.out]; rfl, HT3.out.trans ⟨rfl, rfl, rfl, Nat.le_refl _, fun _ _ _ => rfl⟩⟩
        · have d1 : decide (A1 < 0) = false := by simpa using h1
          have e1 : 0 ≤ A1 := by omega
          by_cases h2 : 0 ≤ A2
          · obtain ⟨x, rfl⟩ : ∃ x : Nat, A1 = x := ⟨A1.toNat, by omega⟩
            obtain ⟨y, rfl⟩ : ∃ y : Nat, A2 = y := ⟨A2.toNat, by omega⟩
            have hx : x < r.length := by rw [← HNn.out]; omega
            have hy : y < r.length := by rw [← HNn.out]; omega
            have HX2 : Hid (A0 = if lessM r[x] r[y] = true then (y : Int) else (x : Int)) := by
              rw [Hid, HX1.out, Int.toNat_natCast, Int.toNat_natCast, rowO_at r x hx, rowO_at r y hy]
              by_cases hc : lessM r[x] r[y] = true
              · rw [if_pos hc, if_pos (.inr ⟨by omega, hc⟩)]
              · rw [if_neg hc, if_neg (fun z => z.elim (fun q => by omega) (fun q => hc q.2))]
            have HR : Hid (∀ W, Touch (fun _ => False) w W → W.rangeAt b (o + x * 22) r[x].vals.toList ∧ W.rangeAt b (o + y * 22) r[y].vals.toList) := fun W t => ⟨HRW.out W t x hx, HRW.out W t y hy⟩
            have HE : Hid (∀ W, Calls Tryz.prog 55 #[r[x].val, r[y].val] W fun e w' => e = .returned (.bool (lessM r[x] r[y])) ∧ Touch (fun _ => False) W w') := HLe.out r[x] r[y]
            have HW : Hid (Touch (fun _ => False) w W3) := HW0.out.trans HT3.out
            have i1 : (x : Int) < (N : Int) := by omega
            have i2 : (0 : Int) ≤ (x : Int) := by omega
            have i3 : (y : Int) < (N : Int) := by omega
            have i4 : (0 : Int) ≤ (y : Int) := by omega
            have d2 : decide ((x : Int) < 0) = false := by simp
            have d3 : decide ((0 : Int) ≤ (y : Int)) = true := by simp
            have eg : ∀ args w, (callFunc 55 args).run Tryz.prog w = .ok (.enter 55 args) w := enters_of Tryz.func55 (by kernel_rfl) rfl
            clear HX1 HL1 HL2 HRW HLe
            generalize lessM r[x] r[y] = lb at *
            generalize r[x] = ox at *
            generalize r[y] = oy at *
            have hS0 : W3.drew.rangeAt b (o + x * 22) ox.vals.toList ∧ W3.drew.rangeAt b (o + y * 22) oy.vals.toList := HR.out W3.drew HW.out.drew
            go_upto_region 6 with fail
            refine wp_region_held_drew (S := fun W => W.rangeAt b (o + x * 22) ox.vals.toList ∧ W.rangeAt b (o + y * 22) oy.vals.toList) (by kernel_rfl) hS0 (fun hHeld => ?_)
            cases lb with
            | true =>
              refine wpAnyH_take (i := 0) (oi := { dst := some 33, op := Go.Op.move (Go.Operand.tmp 7), type := 3, pos := "rank.go:43", after := #[], guard := none }) (v := .int .i64 (x : Int)) rfl (by kernel_rfl) (by kernel_rfl) (by kernel_rfl) (fun _ _ _ h => h) (Or.inl ⟨by rfl, ?_⟩) hHeld ?_
              · intro w hSw; clear hSw; go_simp
              simp only [Act.put, List.setIfInBounds_toArray]
              refine wpAnyH_take (i := 1) (oi := { dst := some 34, op := Go.Op.binOp Go.BinOp.lss 3 (Go.Operand.tmp 33) (Go.Operand.const (Go.Value.int Go.IntKind.i64 0)) 3, type := 4, pos := "rank.go:43", after := #[{ on := 0, ground := Go.Ground.data }], guard := none }) (v := .bool false) rfl (by kernel_rfl) (by kernel_rfl) (by kernel_rfl) (fun _ _ _ h => h) (Or.inl ⟨by rfl, ?_⟩) hHeld ?_
              · intro w hSw; clear hSw; go_simp
              simp only [Act.put, List.setIfInBounds_toArray]
              refine wpAnyH_take (i := 2) (oi := { dst := some 35, op := Go.Op.move (Go.Operand.tmp 34), type := 4, pos := "rank.go:43", after := #[{ on := 1, ground := Go.Ground.data }], guard := none }) (v := .bool false) rfl (by kernel_rfl) (by kernel_rfl) (by kernel_rfl) (fun _ _ _ h => h) (Or.inl ⟨by rfl, ?_⟩) hHeld ?_
              · intro w hSw; clear hSw; go_simp
              simp only [Act.put, List.setIfInBounds_toArray]
              refine wpAnyH_take (i := 3) (oi := { dst := some 36, op := Go.Op.move (Go.Operand.tmp 8), type := 3, pos := "rank.go:43", after := #[{ on := 2, ground := Go.Ground.guard }], guard := some (2, false) }) (v := .int .i64 (y : Int)) rfl (by kernel_rfl) (by kernel_rfl) (by kernel_rfl) (fun _ _ _ h => h) (Or.inl ⟨by rfl, ?_⟩) hHeld ?_
              · intro w hSw; clear hSw; go_simp
              simp only [Act.put, List.setIfInBounds_toArray]
              refine wpAnyH_take (i := 4) (oi := { dst := some 37, op := Go.Op.binOp Go.BinOp.geq 3 (Go.Operand.tmp 36) (Go.Operand.const (Go.Value.int Go.IntKind.i64 0)) 3, type := 4, pos := "rank.go:43", after := #[{ on := 3, ground := Go.Ground.data }, { on := 2, ground := Go.Ground.guard }], guard := some (2, false) }) (v := .bool true) rfl (by kernel_rfl) (by kernel_rfl) (by kernel_rfl) (fun _ _ _ h => h) (Or.inl ⟨by rfl, ?_⟩) hHeld ?_
              · intro w hSw; clear hSw; go_simp
              simp only [Act.put, List.setIfInBounds_toArray]
              refine wpAnyH_take (i := 5) (oi := { dst := some 38, op := Go.Op.move (Go.Operand.tmp 37), type := 4, pos := "rank.go:43", after := #[{ on := 4, ground := Go.Ground.data }, { on := 2, ground := Go.Ground.chain }, { on := 2, ground := Go.Ground.guard }], guard := some (2, false) }) (v := .bool true) rfl (by kernel_rfl) (by kernel_rfl) (by kernel_rfl) (fun _ _ _ h => h) (Or.inl ⟨by rfl, ?_⟩) hHeld ?_
              · intro w hSw; clear hSw; go_simp
              simp only [Act.put, List.setIfInBounds_toArray]
              refine wpAnyH_take (i := 6) (oi := { dst := some 39, op := Go.Op.move (Go.Operand.tmp 0), type := 68, pos := "rank.go:43", after := #[{ on := 5, ground := Go.Ground.guard }], guard := some (5, true) }) (v := .slice (some ⟨b, o, none⟩) N cap) rfl (by kernel_rfl) (by kernel_rfl) (by kernel_rfl) (fun _ _ _ h => h) (Or.inl ⟨by rfl, ?_⟩) hHeld ?_
              · intro w hSw; clear hSw; go_simp
              simp only [Act.put, List.setIfInBounds_toArray]
              refine wpAnyH_take (i := 7) (oi := { dst := some 40, op := Go.Op.move (Go.Operand.tmp 7), type := 3, pos := "rank.go:43", after := #[{ on := 5, ground := Go.Ground.guard }], guard := some (5, true) }) (v := .int .i64 (x : Int)) rfl (by kernel_rfl) (by kernel_rfl) (by kernel_rfl) (fun _ _ _ h => h) (Or.inl ⟨by rfl, ?_⟩) hHeld ?_
              · intro w hSw; clear hSw; go_simp
              simp only [Act.put, List.setIfInBounds_toArray]
              refine wpAnyH_take (i := 8) (oi := { dst := some 41, op := Go.Op.indexAddr 68 (Go.Operand.tmp 39) (Go.Operand.tmp 40), type := 0, pos := "rank.go:43", after := #[{ on := 6, ground := Go.Ground.data }, { on := 7, ground := Go.Ground.data }, { on := 5, ground := Go.Ground.guard }], guard := some (5, true) }) (v := .pointer (some ⟨b, o + x * 22, none⟩)) rfl (by kernel_rfl) (by kernel_rfl) (by kernel_rfl) (fun _ _ _ h => h) (Or.inl ⟨by rfl, ?_⟩) hHeld ?_
              · intro w hSw; clear hSw; go_simp
              simp only [Act.put, List.setIfInBounds_toArray]
              refine wpAnyH_take (i := 9) (oi := { dst := some 42, op := Go.Op.load 41 (Go.Operand.tmp 41), type := 41, pos := "rank.go:43", after := #[{ on := 8, ground := Go.Ground.data }, { on := 5, ground := Go.Ground.guard }], guard := some (5, true) }) (v := ox.val) rfl (by kernel_rfl) (by kernel_rfl) (by kernel_rfl) (fun _ _ _ h => h) (yieldsIf_load_mid (by rfl) 41 (.tmp 41) rfl b (o + x * 22) rfl ox.vals.toList _ (fun w hw => hw.1) Tryz.underlying41 rfl (by kernel_rfl)) hHeld ?_
              simp only [Act.put, List.setIfInBounds_toArray]
              refine wpAnyH_take (i := 10) (oi := { dst := some 43, op := Go.Op.move (Go.Operand.tmp 0), type := 68, pos := "rank.go:43", after := #[{ on := 5, ground := Go.Ground.guard }], guard := some (5, true) }) (v := .slice (some ⟨b, o, none⟩) N cap) rfl (by kernel_rfl) (by kernel_rfl) (by kernel_rfl) (fun _ _ _ h => h) (Or.inl ⟨by rfl, ?_⟩) hHeld ?_
              · intro w hSw; clear hSw; go_simp
              simp only [Act.put, List.setIfInBounds_toArray]
              refine wpAnyH_take (i := 11) (oi := { dst := some 44, op := Go.Op.move (Go.Operand.tmp 8), type := 3, pos := "rank.go:43", after := #[{ on := 5, ground := Go.Ground.guard }], guard := some (5, true) }) (v := .int .i64 (y : Int)) rfl (by kernel_rfl) (by kernel_rfl) (by kernel_rfl) (fun _ _ _ h => h) (Or.inl ⟨by rfl, ?_⟩) hHeld ?_
              · intro w hSw; clear hSw; go_simp
              simp only [Act.put, List.setIfInBounds_toArray]
              refine wpAnyH_take (i := 12) (oi := { dst := some 45, op := Go.Op.indexAddr 68 (Go.Operand.tmp 43) (Go.Operand.tmp 44), type := 0, pos := "rank.go:43", after := #[{ on := 10, ground := Go.Ground.data }, { on := 11, ground := Go.Ground.data }, { on := 5, ground := Go.Ground.guard }], guard := some (5, true) }) (v := .pointer (some ⟨b, o + y * 22, none⟩)) rfl (by kernel_rfl) (by kernel_rfl) (by kernel_rfl) (fun _ _ _ h => h) (Or.inl ⟨by rfl, ?_⟩) hHeld ?_
              · intro w hSw; clear hSw; go_simp
              simp only [Act.put, List.setIfInBounds_toArray]
              refine wpAnyH_take (i := 13) (oi := { dst := some 46, op := Go.Op.load 41 (Go.Operand.tmp 45), type := 41, pos := "rank.go:43", after := #[{ on := 12, ground := Go.Ground.data }, { on := 5, ground := Go.Ground.guard }], guard := some (5, true) }) (v := oy.val) rfl (by kernel_rfl) (by kernel_rfl) (by kernel_rfl) (fun _ _ _ h => h) (yieldsIf_load_mid (by rfl) 41 (.tmp 45) rfl b (o + y * 22) rfl oy.vals.toList _ (fun w hw => hw.2) Tryz.underlying41 rfl (by kernel_rfl)) hHeld ?_
              simp only [Act.put, List.setIfInBounds_toArray]
              refine wpAnyH_ready (rs := [14]) (by kernel_rfl) (by simp) ?_
              refine AllReadyH.cons (o := { dst := some 47, op := Go.Op.call { callee := Go.Callee.value (Go.Operand.func 55), args := #[Go.Operand.tmp 42, Go.Operand.tmp 46], argTypes := #[41, 41] }, type := 4, pos := "rank.go:43", after := #[{ on := 9, ground := Go.Ground.data }, { on := 13, ground := Go.Ground.data }, { on := 5, ground := Go.Ground.chain }, { on := 5, ground := Go.Ground.guard }], guard := some (5, true) }) rfl (fun K hK => ?_) AllReadyH.nil
              go_simp
              refine (HE.out _).mono ?_
              rintro e w2 ⟨rfl, hT⟩
              have HT4 : Hid (Touch (fun _ => False) W w2) := HT3.out.trans (Touch.drew_left2 hT)
              have hS2 := HR.out w2 (HW0.out.trans HT4.out)
              clear hT
              refine hK.out _ _ hS2 (fun hHeld => ?_)
              clear hK K hS2
              refine wpAnyH_take (i := 15) (oi := { dst := some 48, op := Go.Op.pick (Go.Operand.tmp 38) (Go.Operand.tmp 47) (Go.Operand.const (Go.Value.bool false)), type := 4, pos := "rank.go:43", after := #[{ on := 5, ground := Go.Ground.data }, { on := 14, ground := Go.Ground.data }, { on := 2, ground := Go.Ground.guard }], guard := some (2, false) }) (v := .bool true) rfl (by kernel_rfl) (by kernel_rfl) (by kernel_rfl) (fun _ _ _ h => h) (Or.inl ⟨by rfl, ?_⟩) hHeld ?_
              · intro w hSw; clear hSw; go_simp
              simp only [Act.put, List.setIfInBounds_toArray]
              refine wpAnyH_take (i := 16) (oi := { dst := some 49, op := Go.Op.pick (Go.Operand.tmp 35) (Go.Operand.const (Go.Value.bool true)) (Go.Operand.tmp 48), type := 4, pos := "rank.go:43", after := #[{ on := 2, ground := Go.Ground.data }, { on := 15, ground := Go.Ground.data }], guard := none }) (v := .bool true) rfl (by kernel_rfl) (by kernel_rfl) (by kernel_rfl) (fun _ _ _ h => h) (Or.inl ⟨by rfl, ?_⟩) hHeld ?_
              · intro w hSw; clear hSw; go_simp
              simp only [Act.put, List.setIfInBounds_toArray]
              refine wpAnyH_done (by kernel_rfl) ?_ _
              try simp only [List.getElem_toArray, List.getElem_cons_succ, List.getElem_cons_zero, List.setIfInBounds_toArray, List.set_cons_succ, List.set_cons_zero]
              clear hHeld hS0
              go_wp2_with fail
              go_ret
              exact ⟨by rw [HX2.out]; rfl, HT4.out⟩
            | false =>
              refine wpAnyH_take (i := 0) (oi := { dst := some 33, op := Go.Op.move (Go.Operand.tmp 7), type := 3, pos := "rank.go:43", after := #[], guard := none }) (v := .int .i64 (x : Int)) rfl (by kernel_rfl) (by kernel_rfl) (by kernel_rfl) (fun _ _ _ h => h) (Or.inl ⟨by rfl, ?_⟩) hHeld ?_
              · intro w hSw; clear hSw; go_simp
              simp only [Act.put, List.setIfInBounds_toArray]
              refine wpAnyH_take (i := 1) (oi := { dst := some 34, op := Go.Op.binOp Go.BinOp.lss 3 (Go.Operand.tmp 33) (Go.Operand.const (Go.Value.int Go.IntKind.i64 0)) 3, type := 4, pos := "rank.go:43", after := #[{ on := 0, ground := Go.Ground.data }], guard := none }) (v := .bool false) rfl (by kernel_rfl) (by kernel_rfl) (by kernel_rfl) (fun _ _ _ h => h) (Or.inl ⟨by rfl, ?_⟩) hHeld ?_
              · intro w hSw; clear hSw; go_simp
              simp only [Act.put, List.setIfInBounds_toArray]
              refine wpAnyH_take (i := 2) (oi := { dst := some 35, op := Go.Op.move (Go.Operand.tmp 34), type := 4, pos := "rank.go:43", after := #[{ on := 1, ground := Go.Ground.data }], guard := none }) (v := .bool false) rfl (by kernel_rfl) (by kernel_rfl) (by kernel_rfl) (fun _ _ _ h => h) (Or.inl ⟨by rfl, ?_⟩) hHeld ?_
              · intro w hSw; clear hSw; go_simp
              simp only [Act.put, List.setIfInBounds_toArray]
              refine wpAnyH_take (i := 3) (oi := { dst := some 36, op := Go.Op.move (Go.Operand.tmp 8), type := 3, pos := "rank.go:43", after := #[{ on := 2, ground := Go.Ground.guard }], guard := some (2, false) }) (v := .int .i64 (y : Int)) rfl (by kernel_rfl) (by kernel_rfl) (by kernel_rfl) (fun _ _ _ h => h) (Or.inl ⟨by rfl, ?_⟩) hHeld ?_
              · intro w hSw; clear hSw; go_simp
              simp only [Act.put, List.setIfInBounds_toArray]
              refine wpAnyH_take (i := 4) (oi := { dst := some 37, op := Go.Op.binOp Go.BinOp.geq 3 (Go.Operand.tmp 36) (Go.Operand.const (Go.Value.int Go.IntKind.i64 0)) 3, type := 4, pos := "rank.go:43", after := #[{ on := 3, ground := Go.Ground.data }, { on := 2, ground := Go.Ground.guard }], guard := some (2, false) }) (v := .bool true) rfl (by kernel_rfl) (by kernel_rfl) (by kernel_rfl) (fun _ _ _ h => h) (Or.inl ⟨by rfl, ?_⟩) hHeld ?_
              · intro w hSw; clear hSw; go_simp
              simp only [Act.put, List.setIfInBounds_toArray]
              refine wpAnyH_take (i := 5) (oi := { dst := some 38, op := Go.Op.move (Go.Operand.tmp 37), type := 4, pos := "rank.go:43", after := #[{ on := 4, ground := Go.Ground.data }, { on := 2, ground := Go.Ground.chain }, { on := 2, ground := Go.Ground.guard }], guard := some (2, false) }) (v := .bool true) rfl (by kernel_rfl) (by kernel_rfl) (by kernel_rfl) (fun _ _ _ h => h) (Or.inl ⟨by rfl, ?_⟩) hHeld ?_
              · intro w hSw; clear hSw; go_simp
              simp only [Act.put, List.setIfInBounds_toArray]
              refine wpAnyH_take (i := 6) (oi := { dst := some 39, op := Go.Op.move (Go.Operand.tmp 0), type := 68, pos := "rank.go:43", after := #[{ on := 5, ground := Go.Ground.guard }], guard := some (5, true) }) (v := .slice (some ⟨b, o, none⟩) N cap) rfl (by kernel_rfl) (by kernel_rfl) (by kernel_rfl) (fun _ _ _ h => h) (Or.inl ⟨by rfl, ?_⟩) hHeld ?_
              · intro w hSw; clear hSw; go_simp
              simp only [Act.put, List.setIfInBounds_toArray]
              refine wpAnyH_take (i := 7) (oi := { dst := some 40, op := Go.Op.move (Go.Operand.tmp 7), type := 3, pos := "rank.go:43", after := #[{ on := 5, ground := Go.Ground.guard }], guard := some (5, true) }) (v := .int .i64 (x : Int)) rfl (by kernel_rfl) (by kernel_rfl) (by kernel_rfl) (fun _ _ _ h => h) (Or.inl ⟨by rfl, ?_⟩) hHeld ?_
              · intro w hSw; clear hSw; go_simp
              simp only [Act.put, List.setIfInBounds_toArray]
              refine wpAnyH_take (i := 8) (oi := { dst := some 41, op := Go.Op.indexAddr 68 (Go.Operand.tmp 39) (Go.Operand.tmp 40), type := 0, pos := "rank.go:43", after := #[{ on := 6, ground := Go.Ground.data }, { on := 7, ground := Go.Ground.data }, { on := 5, ground := Go.Ground.guard }], guard := some (5, true) }) (v := .pointer (some ⟨b, o + x * 22, none⟩)) rfl (by kernel_rfl) (by kernel_rfl) (by kernel_rfl) (fun _ _ _ h => h) (Or.inl ⟨by rfl, ?_⟩) hHeld ?_
              · intro w hSw; clear hSw; go_simp
              simp only [Act.put, List.setIfInBounds_toArray]
              refine wpAnyH_take (i := 9) (oi := { dst := some 42, op := Go.Op.load 41 (Go.Operand.tmp 41), type := 41, pos := "rank.go:43", after := #[{ on := 8, ground := Go.Ground.data }, { on := 5, ground := Go.Ground.guard }], guard := some (5, true) }) (v := ox.val) rfl (by kernel_rfl) (by kernel_rfl) (by kernel_rfl) (fun _ _ _ h => h) (yieldsIf_load_mid (by rfl) 41 (.tmp 41) rfl b (o + x * 22) rfl ox.vals.toList _ (fun w hw => hw.1) Tryz.underlying41 rfl (by kernel_rfl)) hHeld ?_
              simp only [Act.put, List.setIfInBounds_toArray]
              refine wpAnyH_take (i := 10) (oi := { dst := some 43, op := Go.Op.move (Go.Operand.tmp 0), type := 68, pos := "rank.go:43", after := #[{ on := 5, ground := Go.Ground.guard }], guard := some (5, true) }) (v := .slice (some ⟨b, o, none⟩) N cap) rfl (by kernel_rfl) (by kernel_rfl) (by kernel_rfl) (fun _ _ _ h => h) (Or.inl ⟨by rfl, ?_⟩) hHeld ?_
              · intro w hSw; clear hSw; go_simp
              simp only [Act.put, List.setIfInBounds_toArray]
              refine wpAnyH_take (i := 11) (oi := { dst := some 44, op := Go.Op.move (Go.Operand.tmp 8), type := 3, pos := "rank.go:43", after := #[{ on := 5, ground := Go.Ground.guard }], guard := some (5, true) }) (v := .int .i64 (y : Int)) rfl (by kernel_rfl) (by kernel_rfl) (by kernel_rfl) (fun _ _ _ h => h) (Or.inl ⟨by rfl, ?_⟩) hHeld ?_
              · intro w hSw; clear hSw; go_simp
              simp only [Act.put, List.setIfInBounds_toArray]
              refine wpAnyH_take (i := 12) (oi := { dst := some 45, op := Go.Op.indexAddr 68 (Go.Operand.tmp 43) (Go.Operand.tmp 44), type := 0, pos := "rank.go:43", after := #[{ on := 10, ground := Go.Ground.data }, { on := 11, ground := Go.Ground.data }, { on := 5, ground := Go.Ground.guard }], guard := some (5, true) }) (v := .pointer (some ⟨b, o + y * 22, none⟩)) rfl (by kernel_rfl) (by kernel_rfl) (by kernel_rfl) (fun _ _ _ h => h) (Or.inl ⟨by rfl, ?_⟩) hHeld ?_
              · intro w hSw; clear hSw; go_simp
              simp only [Act.put, List.setIfInBounds_toArray]
              refine wpAnyH_take (i := 13) (oi := { dst := some 46, op := Go.Op.load 41 (Go.Operand.tmp 45), type := 41, pos := "rank.go:43", after := #[{ on := 12, ground := Go.Ground.data }, { on := 5, ground := Go.Ground.guard }], guard := some (5, true) }) (v := oy.val) rfl (by kernel_rfl) (by kernel_rfl) (by kernel_rfl) (fun _ _ _ h => h) (yieldsIf_load_mid (by rfl) 41 (.tmp 45) rfl b (o + y * 22) rfl oy.vals.toList _ (fun w hw => hw.2) Tryz.underlying41 rfl (by kernel_rfl)) hHeld ?_
              simp only [Act.put, List.setIfInBounds_toArray]
              refine wpAnyH_ready (rs := [14]) (by kernel_rfl) (by simp) ?_
              refine AllReadyH.cons (o := { dst := some 47, op := Go.Op.call { callee := Go.Callee.value (Go.Operand.func 55), args := #[Go.Operand.tmp 42, Go.Operand.tmp 46], argTypes := #[41, 41] }, type := 4, pos := "rank.go:43", after := #[{ on := 9, ground := Go.Ground.data }, { on := 13, ground := Go.Ground.data }, { on := 5, ground := Go.Ground.chain }, { on := 5, ground := Go.Ground.guard }], guard := some (5, true) }) rfl (fun K hK => ?_) AllReadyH.nil
              go_simp
              refine (HE.out _).mono ?_
              rintro e w2 ⟨rfl, hT⟩
              have HT4 : Hid (Touch (fun _ => False) W w2) := HT3.out.trans (Touch.drew_left2 hT)
              have hS2 := HR.out w2 (HW0.out.trans HT4.out)
              clear hT
              refine hK.out _ _ hS2 (fun hHeld => ?_)
              clear hK K hS2
              refine wpAnyH_take (i := 15) (oi := { dst := some 48, op := Go.Op.pick (Go.Operand.tmp 38) (Go.Operand.tmp 47) (Go.Operand.const (Go.Value.bool false)), type := 4, pos := "rank.go:43", after := #[{ on := 5, ground := Go.Ground.data }, { on := 14, ground := Go.Ground.data }, { on := 2, ground := Go.Ground.guard }], guard := some (2, false) }) (v := .bool false) rfl (by kernel_rfl) (by kernel_rfl) (by kernel_rfl) (fun _ _ _ h => h) (Or.inl ⟨by rfl, ?_⟩) hHeld ?_
              · intro w hSw; clear hSw; go_simp
              simp only [Act.put, List.setIfInBounds_toArray]
              refine wpAnyH_take (i := 16) (oi := { dst := some 49, op := Go.Op.pick (Go.Operand.tmp 35) (Go.Operand.const (Go.Value.bool true)) (Go.Operand.tmp 48), type := 4, pos := "rank.go:43", after := #[{ on := 2, ground := Go.Ground.data }, { on := 15, ground := Go.Ground.data }], guard := none }) (v := .bool false) rfl (by kernel_rfl) (by kernel_rfl) (by kernel_rfl) (fun _ _ _ h => h) (Or.inl ⟨by rfl, ?_⟩) hHeld ?_
              · intro w hSw; clear hSw; go_simp
              simp only [Act.put, List.setIfInBounds_toArray]
              refine wpAnyH_done (by kernel_rfl) ?_ _
              try simp only [List.getElem_toArray, List.getElem_cons_succ, List.getElem_cons_zero, List.setIfInBounds_toArray, List.set_cons_succ, List.set_cons_zero]
              clear hHeld hS0
              go_wp2_with fail
              go_ret
              exact ⟨by rw [HX2.out]; rfl, HT4.out⟩
          · have HX2 : Hid (A0 = A1) := by rw [Hid, HX1.out, if_neg (by rintro (q | ⟨q, _⟩) <;> omega)]
            have d2 : decide (0 ≤ A2) = false := by simpa using h2
            clear HX1 HL1 HL2
            go_wp2_with fail
            go_quiet (fail)
            go_wp2_with fail
            go_ret
            exact ⟨by rw [HX2.out]; rfl, HT3.out.trans ⟨rfl, rfl, rfl, Nat.le_refl _, fun _ _ _ => rfl⟩⟩
end Go.Proofs.YtodpdcflbnomgaaGreat
