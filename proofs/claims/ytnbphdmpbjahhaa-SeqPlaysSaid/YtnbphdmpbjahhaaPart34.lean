/- quirelaw9: known. -/
import Derived.Test.YtnbphdmpbjahhaaPart29
namespace Go.Proofs.Ytnbphdmpbjahhaa
open Go.RowKit
set_option linter.unusedVariables false
set_option linter.unusedSimpArgs false
set_option maxRecDepth 100000

abbrev kA : Un := ⟨1, 1, 0, 0, 0, 0⟩
abbrev kB : Un := ⟨1, 2, 1, 1, 0, 0⟩
abbrev kC : Un := ⟨2, 1, 1, 1, 1, 2⟩
abbrev kD : Un := ⟨1, 3, 1, 1, 2, 1⟩
abbrev kE : Un := ⟨9, 1, 1, 2, 1, 1⟩
abbrev kF : Un := ⟨9, 1, 8, 8, 0, 0⟩
abbrev kG : Un := ⟨9, 1, 1, 2, 0, 0⟩
def k1 : SS := SS.new.run kA 1
def k2 : SS := k1.run kB 1
def k3 : SS := k2.run kC 1
def k4 : SS := k3.run kD 1
def k5 : SS := k4.run kG 3
theorem uok {a b c d e f : Int} (h : (decide (0 ≤ a) && decide (0 ≤ b) && decide (b < 18446744073709551616) && decide (0 ≤ c) && decide (0 ≤ d) && decide (d < 18446744073709551616) && decide (0 ≤ e) && decide (0 ≤ f) && decide (f < 18446744073709551616)) = true) : (⟨a, b, c, d, e, f⟩ : Un).ok := by
  simp only [Bool.and_eq_true, decide_eq_true_eq] at h
  obtain ⟨⟨⟨⟨⟨⟨⟨⟨h1, h2⟩, h3⟩, h4⟩, h5⟩, h6⟩, h7⟩, h8⟩, h9⟩ := h
  exact ⟨h1, ⟨h2, h3⟩, h4, ⟨h5, h6⟩, h7, ⟨h8, h9⟩⟩
theorem m1 : SS.new.may kA 1 = true := by decide
theorem m2 : k1.may kB 1 = true := by decide
theorem m3 : k2.may kC 1 = true := by decide
theorem m4 : k3.may kD 1 = true := by decide
theorem m5 : k4.may kA 1 = false := by decide
theorem m6 : k4.may kE 1 = false := by decide
theorem m7 : k4.may kF 1 = false := by decide
theorem m8 : k4.may kG 3 = true := by decide
theorem q1 : k4.at_ 1 = (kD, true) := by decide
theorem q2 : k4.find 2 1 = 2 := by decide
theorem q3 : k4.find 1 2 = 3 := by decide
theorem q4 : k4.total = 4 := by decide
theorem q5 : k5.find 9 3 = 6 := by decide
theorem r0 : Room SS.new 1 := ⟨by decide, by decide, by decide⟩
theorem r1 : Room k1 1 := ⟨by decide, by decide, by decide⟩
theorem r2 : Room k2 1 := ⟨by decide, by decide, by decide⟩
theorem r3 : Room k3 1 := ⟨by decide, by decide, by decide⟩
theorem r4 : Room k4 3 := ⟨by decide, by decide, by decide⟩
theorem r4' : Room k4 1 := ⟨by decide, by decide, by decide⟩
theorem n5 : k4.run kA 1 = k4 := by unfold SS.run; rw [m5]; rfl
theorem n6 : k4.run kE 1 = k4 := by unfold SS.run; rw [m6]; rfl
theorem n7 : k4.run kF 1 = k4 := by unfold SS.run; rw [m7]; rfl
end Go.Proofs.Ytnbphdmpbjahhaa

/- quirelaw9: known holds. -/
namespace Go.Proofs.Ytnbphdmpbjahhaa
open Go.RowKit
set_option linter.unusedVariables false
set_option linter.unusedSimpArgs false
set_option maxRecDepth 100000

set_option maxHeartbeats 32000000 in
theorem known_any (w : World) : Calls Try.prog 9 #[] w fun e w' => e = .returned (.bool true) ∧ Touch (fun _ => False) w w' := by
  go_enter Try.func9, Try.ntmps9
  go_wp2_with fail
  refine (Kn.new w).mono ?_
  rintro e W1 ⟨p, rfl, h1⟩
  have K1 : Hid (Kn w W1 p [] .new) := h1
  clear h1
  go_wp2_with fail
  refine (K1.out.id 1 1).mono ?_
  rintro e W2 ⟨rfl, h2⟩
  have K2 : Hid (Kn w W2 p [] .new) := h2
  clear h2 K1
  go_wp2_with fail
  refine (K2.out.id 1 2).mono ?_
  rintro e W3 ⟨rfl, h3⟩
  have K3 : Hid (Kn w W3 p [] .new) := h3
  clear h3 K2
  go_wp2_with fail
  refine (K3.out.id 2 1).mono ?_
  rintro e W4 ⟨rfl, h4⟩
  have K4 : Hid (Kn w W4 p [] .new) := h4
  clear h4 K3
  go_upto_region 5 with fail
  obtain ⟨W5, hW5⟩ : ∃ W, Hid (W = ((W4.alloc (.cells #[u64 1, u64 1] 33)).alloc (.cells #[u64 1, u64 2] 33)).alloc (.cells #[u64 2, u64 1] 33)) := ⟨_, Eq.refl _⟩
  obtain ⟨ma, hma⟩ : ∃ m, Hid (m = W4.heap.size) := ⟨_, Eq.refl _⟩
  obtain ⟨mb, hmb⟩ : ∃ m, Hid (m = W4.heap.size + 1) := ⟨_, Eq.refl _⟩
  obtain ⟨mc, hmc⟩ : ∃ m, Hid (m = W4.heap.size + 1 + 1) := ⟨_, Eq.refl _⟩
  have K5 : Hid (Kn w W5 p [(mc, idO 2 1), (mb, idO 1 2), (ma, idO 1 1)] .new) := by
    have a := K4.out.box (idO 1 1)
    have b := a.box (idO 1 2)
    have c := b.box (idO 2 1)
    rw [World.size_alloc] at b c
    rw [World.size_alloc] at c
    rw [hW5.out, hma.out, hmb.out, hmc.out]
    exact c
  rw [← hW5.out, ← hmc.out, ← hmb.out, ← hma.out]
  clear hW5 hma hmb hmc K4
  have HC : Hid (∀ W S, Kn w W p [(mc, idO 2 1), (mb, idO 1 2), (ma, idO 1 1)] S → W.cell? ⟨ma, 0, none⟩ = some (u64 1) ∧ W.cell? ⟨ma, 1, none⟩ = some (u64 1) ∧ W.cell? ⟨mb, 0, none⟩ = some (u64 1) ∧ W.cell? ⟨mb, 1, none⟩ = some (u64 2) ∧ W.cell? ⟨mc, 0, none⟩ = some (u64 2) ∧ W.cell? ⟨mc, 1, none⟩ = some (u64 1)) := fun W S h => by
    obtain ⟨_, _, c, _⟩ := h
    have a := idO_cells (c (ma, idO 1 1) (by simp))
    have b := idO_cells (c (mb, idO 1 2) (by simp))
    have d := idO_cells (c (mc, idO 2 1) (by simp))
    exact ⟨a.1, a.2, b.1, b.2, d.1, d.2⟩
  have H1 : Hid (∀ W, Kn w W p [(mc, idO 2 1), (mb, idO 1 2), (ma, idO 1 1)] .new → Calls Try.prog 14 #[sQ p, .agg #[u64 1, u64 1, u64 0, u64 0, u64 0, u64 0]] W fun e w' => e = .returned (.bool true) ∧ Kn w w' p [(mc, idO 2 1), (mb, idO 1 2), (ma, idO 1 1)] k1) := fun W hW => by
    have := hW.insert kA (uok (by decide)) r0
    rw [m1] at this
    exact this
  have H2 : Hid (∀ W, Kn w W p [(mc, idO 2 1), (mb, idO 1 2), (ma, idO 1 1)] k1 → Calls Try.prog 14 #[sQ p, .agg #[u64 1, u64 2, u64 1, u64 1, u64 0, u64 0]] W fun e w' => e = .returned (.bool true) ∧ Kn w w' p [(mc, idO 2 1), (mb, idO 1 2), (ma, idO 1 1)] k2) := fun W hW => by
    have := hW.insert kB (uok (by decide)) r1
    rw [m2] at this
    exact this
  have H3 : Hid (∀ W, Kn w W p [(mc, idO 2 1), (mb, idO 1 2), (ma, idO 1 1)] k2 → Calls Try.prog 14 #[sQ p, .agg #[u64 2, u64 1, u64 1, u64 1, u64 1, u64 2]] W fun e w' => e = .returned (.bool true) ∧ Kn w w' p [(mc, idO 2 1), (mb, idO 1 2), (ma, idO 1 1)] k3) := fun W hW => by
    have := hW.insert kC (uok (by decide)) r2
    rw [m3] at this
    exact this
  have H4 : Hid (∀ W, Kn w W p [(mc, idO 2 1), (mb, idO 1 2), (ma, idO 1 1)] k3 → Calls Try.prog 14 #[sQ p, .agg #[u64 1, u64 3, u64 1, u64 1, u64 2, u64 1]] W fun e w' => e = .returned (.bool true) ∧ Kn w w' p [(mc, idO 2 1), (mb, idO 1 2), (ma, idO 1 1)] k4) := fun W hW => by
    have := hW.insert kD (uok (by decide)) r3
    rw [m4] at this
    exact this
  have HJ : Hid (∀ W, Kn w W p [(mc, idO 2 1), (mb, idO 1 2), (ma, idO 1 1)] k3 → Calls Try.prog 15 #[u64 1, u64 3] W fun e w' => e = .returned (.agg #[u64 1, u64 3]) ∧ Kn w w' p [(mc, idO 2 1), (mb, idO 1 2), (ma, idO 1 1)] k3) := fun W hW => hW.id 1 3
  go_cut [5] (fun t wx => t = .bool true ∧ Hid (Kn w wx p [(mc, idO 2 1), (mb, idO 1 2), (ma, idO 1 1)] k4))
  case first =>
    have K5d : Hid (Kn w W5.drew p [(mc, idO 2 1), (mb, idO 1 2), (ma, idO 1 1)] .new) := K5.out.touch (Touch.refl _ _).drew
    have s0 := HC.out _ _ K5d.out
    go_wp2_with fail
    go_region_held3 (fun W => W.cell? ⟨ma, 0, none⟩ = some (u64 1) ∧ W.cell? ⟨ma, 1, none⟩ = some (u64 1) ∧ W.cell? ⟨mb, 0, none⟩ = some (u64 1) ∧ W.cell? ⟨mb, 1, none⟩ = some (u64 2) ∧ W.cell? ⟨mc, 0, none⟩ = some (u64 2) ∧ W.cell? ⟨mc, 1, none⟩ = some (u64 1)) (first | assumption)
      (first
        | (go_at_call 14; first
          | ((with_reducible refine (H1.out _ K5d.out).mono ?_); rintro e V1 ⟨rfl, h⟩; have K6 : Hid (Kn w V1 p [(mc, idO 2 1), (mb, idO 1 2), (ma, idO 1 1)] k1) := h; have s1 := HC.out _ _ h; clear h)
          | ((with_reducible refine (H2.out _ K6.out).mono ?_); rintro e V2 ⟨rfl, h⟩; have K7 : Hid (Kn w V2 p [(mc, idO 2 1), (mb, idO 1 2), (ma, idO 1 1)] k2) := h; have s2 := HC.out _ _ h; clear h)
          | ((with_reducible refine (H3.out _ K7.out).mono ?_); rintro e V3 ⟨rfl, h⟩; have K8 : Hid (Kn w V3 p [(mc, idO 2 1), (mb, idO 1 2), (ma, idO 1 1)] k3) := h; have s3 := HC.out _ _ h; clear h)
          | ((with_reducible refine (H4.out _ K9.out).mono ?_); rintro e V5 ⟨rfl, h⟩; have K10 : Hid (Kn w V5 p [(mc, idO 2 1), (mb, idO 1 2), (ma, idO 1 1)] k4) := h; have s5 := HC.out _ _ h; clear h))
        | (go_at_call 15; (with_reducible refine (HJ.out _ K8.out).mono ?_); rintro e V4 ⟨rfl, h⟩; have K9 : Hid (Kn w V4 p [(mc, idO 2 1), (mb, idO 1 2), (ma, idO 1 1)] k3) := h; have s4 := HC.out _ _ h; clear h))
    all_goals (try go_wp2_with fail)
    all_goals go_meet
    all_goals (case rel => exact ⟨rfl, K10.out⟩)
  case rest =>
    obtain ⟨rfl, K6⟩ := hcut
    obtain ⟨V, hV⟩ : ∃ we, we = wc := ⟨_, rfl⟩
    subst hV
    clear K5 H1 H2 H3 H4 HJ
    have HAt := K6.out.at 1 ⟨by omega, by omega⟩
    rw [q1] at HAt
    go_wp2_with fail
    refine HAt.mono ?_
    rintro e V1 ⟨rfl, h⟩
    have K7 : Hid (Kn w V1 p [(mc, idO 2 1), (mb, idO 1 2), (ma, idO 1 1)] k4) := h
    clear h HAt K6
    obtain ⟨V2, hV2⟩ : ∃ W, Hid (W = V1.alloc (.cells #[.int .u64 1, .int .u64 3, .int .u64 1, .int .u64 1, .int .u64 2, .int .u64 1] 35)) := ⟨_, Eq.refl _⟩
    obtain ⟨mx, hmx⟩ : ∃ m, Hid (m = V1.heap.size) := ⟨_, Eq.refl _⟩
    have K8 : Hid (Kn w V2 p [(mx, unO kD), (mc, idO 2 1), (mb, idO 1 2), (ma, idO 1 1)] k4) := by
      rw [hV2.out, hmx.out]
      exact K7.out.box (unO kD)
    have HC2 : Hid (∀ W S, Kn w W p [(mx, unO kD), (mc, idO 2 1), (mb, idO 1 2), (ma, idO 1 1)] S → W.cell? ⟨ma, 0, none⟩ = some (.int .u64 1) ∧ W.cell? ⟨ma, 1, none⟩ = some (.int .u64 1) ∧ W.cell? ⟨mb, 0, none⟩ = some (.int .u64 1) ∧ W.cell? ⟨mb, 1, none⟩ = some (.int .u64 2) ∧ W.cell? ⟨mc, 0, none⟩ = some (.int .u64 2) ∧ W.cell? ⟨mc, 1, none⟩ = some (.int .u64 1) ∧ W.cell? ⟨mx, 0, none⟩ = some (.int .u64 1) ∧ W.cell? ⟨mx, 1, none⟩ = some (.int .u64 3)) := fun W S h => by
      obtain ⟨_, _, c, _⟩ := h
      have a := idO_cells (c (ma, idO 1 1) (by simp))
      have b := idO_cells (c (mb, idO 1 2) (by simp))
      have d := idO_cells (c (mc, idO 2 1) (by simp))
      have x := unO_cells (c (mx, unO kD) (by simp))
      exact ⟨a.1, a.2, b.1, b.2, d.1, d.2, x.1, x.2.1⟩
    have G1 : Hid (∀ W, Kn w W p [(mx, unO kD), (mc, idO 2 1), (mb, idO 1 2), (ma, idO 1 1)] k4 → Calls Try.prog 15 #[.int .u64 1, .int .u64 3] W fun e w' => e = .returned (.agg #[.int .u64 1, .int .u64 3]) ∧ Kn w w' p [(mx, unO kD), (mc, idO 2 1), (mb, idO 1 2), (ma, idO 1 1)] k4) := fun W hW => hW.id 1 3
    have G2 : Hid (∀ W, Kn w W p [(mx, unO kD), (mc, idO 2 1), (mb, idO 1 2), (ma, idO 1 1)] k4 → Calls Try.prog 19 #[sQ p, .agg #[.int .u64 2, .int .u64 1]] W fun e w' => e = .returned (iV 2) ∧ Kn w w' p [(mx, unO kD), (mc, idO 2 1), (mb, idO 1 2), (ma, idO 1 1)] k4) := fun W hW => by
      have := hW.find 2 1 (by omega) ⟨by omega, by omega⟩
      rw [q2] at this
      exact this
    have G3 : Hid (∀ W, Kn w W p [(mx, unO kD), (mc, idO 2 1), (mb, idO 1 2), (ma, idO 1 1)] k4 → Calls Try.prog 19 #[sQ p, .agg #[.int .u64 1, .int .u64 2]] W fun e w' => e = .returned (iV 3) ∧ Kn w w' p [(mx, unO kD), (mc, idO 2 1), (mb, idO 1 2), (ma, idO 1 1)] k4) := fun W hW => by
      have := hW.find 1 2 (by omega) ⟨by omega, by omega⟩
      rw [q3] at this
      exact this
    have G4 : Hid (∀ W, Kn w W p [(mx, unO kD), (mc, idO 2 1), (mb, idO 1 2), (ma, idO 1 1)] k4 → Calls Try.prog 20 #[sQ p] W fun e w' => e = .returned (iV 4) ∧ Kn w w' p [(mx, unO kD), (mc, idO 2 1), (mb, idO 1 2), (ma, idO 1 1)] k4) := fun W hW => by
      have := hW.len
      rw [q4] at this
      exact this
    have G6 : Hid (∀ W, Kn w W p [(mx, unO kD), (mc, idO 2 1), (mb, idO 1 2), (ma, idO 1 1)] k4 → Calls Try.prog 15 #[.int .u64 9, .int .u64 1] W fun e w' => e = .returned (.agg #[.int .u64 9, .int .u64 1]) ∧ Kn w w' p [(mx, unO kD), (mc, idO 2 1), (mb, idO 1 2), (ma, idO 1 1)] k4) := fun W hW => hW.id 9 1
    have G8 : Hid (∀ W, Kn w W p [(mx, unO kD), (mc, idO 2 1), (mb, idO 1 2), (ma, idO 1 1)] k4 → Calls Try.prog 15 #[.int .u64 8, .int .u64 8] W fun e w' => e = .returned (.agg #[.int .u64 8, .int .u64 8]) ∧ Kn w w' p [(mx, unO kD), (mc, idO 2 1), (mb, idO 1 2), (ma, idO 1 1)] k4) := fun W hW => hW.id 8 8
    have G12 : Hid (∀ W, Kn w W p [(mx, unO kD), (mc, idO 2 1), (mb, idO 1 2), (ma, idO 1 1)] k4 → Calls Try.prog 11 #[sQ p, .agg #[.int .u64 9, .int .u64 1, .int .u64 1, .int .u64 2, .int .u64 0, .int .u64 0], iV 3] W fun e w' => e = .returned (.bool true) ∧ Kn w w' p [(mx, unO kD), (mc, idO 2 1), (mb, idO 1 2), (ma, idO 1 1)] k5) := fun W hW => by
      have := hW.run kG (uok (by decide)) 3 3 (by omega) (by omega) (by omega) r4
      rw [m8] at this
      exact this
    have G13 : Hid (∀ W, Kn w W p [(mx, unO kD), (mc, idO 2 1), (mb, idO 1 2), (ma, idO 1 1)] k5 → Calls Try.prog 15 #[.int .u64 9, .int .u64 3] W fun e w' => e = .returned (.agg #[.int .u64 9, .int .u64 3]) ∧ Kn w w' p [(mx, unO kD), (mc, idO 2 1), (mb, idO 1 2), (ma, idO 1 1)] k5) := fun W hW => hW.id 9 3
    have G14 : Hid (∀ W, Kn w W p [(mx, unO kD), (mc, idO 2 1), (mb, idO 1 2), (ma, idO 1 1)] k5 → Calls Try.prog 19 #[sQ p, .agg #[.int .u64 9, .int .u64 3]] W fun e w' => e = .returned (iV 6) ∧ Kn w w' p [(mx, unO kD), (mc, idO 2 1), (mb, idO 1 2), (ma, idO 1 1)] k5) := fun W hW => by
      have := hW.find 9 3 (by omega) ⟨by omega, by omega⟩
      rw [q5] at this
      exact this
    have G5 : Hid (∀ W, Kn w W p [(mx, unO kD), (mc, idO 2 1), (mb, idO 1 2), (ma, idO 1 1)] k4 → Calls Try.prog 14 #[sQ p, .agg #[.int .u64 1, .int .u64 1, .int .u64 0, .int .u64 0, .int .u64 0, .int .u64 0]] W fun e w' => e = .returned (.bool false) ∧ Kn w w' p [(mx, unO kD), (mc, idO 2 1), (mb, idO 1 2), (ma, idO 1 1)] k4) := fun W hW => by
      have := hW.insert kA (uok (by decide)) r4'
      rw [m5, n5] at this
      exact this
    have G7 : Hid (∀ W, Kn w W p [(mx, unO kD), (mc, idO 2 1), (mb, idO 1 2), (ma, idO 1 1)] k4 → Calls Try.prog 14 #[sQ p, .agg #[.int .u64 9, .int .u64 1, .int .u64 1, .int .u64 2, .int .u64 1, .int .u64 1]] W fun e w' => e = .returned (.bool false) ∧ Kn w w' p [(mx, unO kD), (mc, idO 2 1), (mb, idO 1 2), (ma, idO 1 1)] k4) := fun W hW => by
      have := hW.insert kE (uok (by decide)) r4'
      rw [m6, n6] at this
      exact this
    have G10 : Hid (∀ W, Kn w W p [(mx, unO kD), (mc, idO 2 1), (mb, idO 1 2), (ma, idO 1 1)] k4 → Calls Try.prog 14 #[sQ p, .agg #[.int .u64 9, .int .u64 1, .int .u64 8, .int .u64 8, .int .u64 0, .int .u64 0]] W fun e w' => e = .returned (.bool false) ∧ Kn w w' p [(mx, unO kD), (mc, idO 2 1), (mb, idO 1 2), (ma, idO 1 1)] k4) := fun W hW => by
      have := hW.insert kF (uok (by decide)) r4'
      rw [m7, n7] at this
      exact this
    go_upto_region 7 with fail
    rw [← hV2.out, ← hmx.out]
    clear hV2 hmx K7
    have K8d : Hid (Kn w V2.drew p [(mx, unO kD), (mc, idO 2 1), (mb, idO 1 2), (ma, idO 1 1)] k4) := K8.out.touch (Touch.refl _ _).drew
    have s0 := HC2.out _ _ K8d.out
    clear K8
    dsimp only [List.append]
    go_region_held3 (fun W => W.cell? ⟨ma, 0, none⟩ = some (.int .u64 1) ∧ W.cell? ⟨ma, 1, none⟩ = some (.int .u64 1) ∧ W.cell? ⟨mb, 0, none⟩ = some (.int .u64 1) ∧ W.cell? ⟨mb, 1, none⟩ = some (.int .u64 2) ∧ W.cell? ⟨mc, 0, none⟩ = some (.int .u64 2) ∧ W.cell? ⟨mc, 1, none⟩ = some (.int .u64 1) ∧ W.cell? ⟨mx, 0, none⟩ = some (.int .u64 1) ∧ W.cell? ⟨mx, 1, none⟩ = some (.int .u64 3)) (first | assumption)
      (first
        | (go_at_call 15; first
          | ((with_reducible refine (G1.out _ K8d.out).mono ?_); rintro e X0 ⟨rfl, h⟩; have K20 : Hid (Kn w X0 p [(mx, unO kD), (mc, idO 2 1), (mb, idO 1 2), (ma, idO 1 1)] k4) := h; have s20 := HC2.out _ _ h; clear h)
          | ((with_reducible refine (G6.out _ K24.out).mono ?_); rintro e X5 ⟨rfl, h⟩; have K25 : Hid (Kn w X5 p [(mx, unO kD), (mc, idO 2 1), (mb, idO 1 2), (ma, idO 1 1)] k4) := h; have s25 := HC2.out _ _ h; clear h)
          | ((with_reducible refine (G6.out _ K26.out).mono ?_); rintro e X7 ⟨rfl, h⟩; have K27 : Hid (Kn w X7 p [(mx, unO kD), (mc, idO 2 1), (mb, idO 1 2), (ma, idO 1 1)] k4) := h; have s27 := HC2.out _ _ h; clear h)
          | ((with_reducible refine (G8.out _ K27.out).mono ?_); rintro e X8 ⟨rfl, h⟩; have K28 : Hid (Kn w X8 p [(mx, unO kD), (mc, idO 2 1), (mb, idO 1 2), (ma, idO 1 1)] k4) := h; have s28 := HC2.out _ _ h; clear h)
          | ((with_reducible refine (G6.out _ K29.out).mono ?_); rintro e X10 ⟨rfl, h⟩; have K30 : Hid (Kn w X10 p [(mx, unO kD), (mc, idO 2 1), (mb, idO 1 2), (ma, idO 1 1)] k4) := h; have s30 := HC2.out _ _ h; clear h)
          | ((with_reducible refine (G13.out _ K31.out).mono ?_); rintro e X12 ⟨rfl, h⟩; have K32 : Hid (Kn w X12 p [(mx, unO kD), (mc, idO 2 1), (mb, idO 1 2), (ma, idO 1 1)] k5) := h; have s32 := HC2.out _ _ h; clear h))
        | (go_at_call 19; first
          | ((with_reducible refine (G2.out _ K20.out).mono ?_); rintro e X1 ⟨rfl, h⟩; have K21 : Hid (Kn w X1 p [(mx, unO kD), (mc, idO 2 1), (mb, idO 1 2), (ma, idO 1 1)] k4) := h; have s21 := HC2.out _ _ h; clear h)
          | ((with_reducible refine (G3.out _ K21.out).mono ?_); rintro e X2 ⟨rfl, h⟩; have K22 : Hid (Kn w X2 p [(mx, unO kD), (mc, idO 2 1), (mb, idO 1 2), (ma, idO 1 1)] k4) := h; have s22 := HC2.out _ _ h; clear h)
          | ((with_reducible refine (G14.out _ K32.out).mono ?_); rintro e X13 ⟨rfl, h⟩; have K33 : Hid (Kn w X13 p [(mx, unO kD), (mc, idO 2 1), (mb, idO 1 2), (ma, idO 1 1)] k5) := h; have s33 := HC2.out _ _ h; clear h))
        | (go_at_call 20; first
          | ((with_reducible refine (G4.out _ K22.out).mono ?_); rintro e X3 ⟨rfl, h⟩; have K23 : Hid (Kn w X3 p [(mx, unO kD), (mc, idO 2 1), (mb, idO 1 2), (ma, idO 1 1)] k4) := h; have s23 := HC2.out _ _ h; clear h))
        | (go_at_call 14; first
          | ((with_reducible refine (G5.out _ K23.out).mono ?_); rintro e X4 ⟨rfl, h⟩; have K24 : Hid (Kn w X4 p [(mx, unO kD), (mc, idO 2 1), (mb, idO 1 2), (ma, idO 1 1)] k4) := h; have s24 := HC2.out _ _ h; clear h)
          | ((with_reducible refine (G7.out _ K25.out).mono ?_); rintro e X6 ⟨rfl, h⟩; have K26 : Hid (Kn w X6 p [(mx, unO kD), (mc, idO 2 1), (mb, idO 1 2), (ma, idO 1 1)] k4) := h; have s26 := HC2.out _ _ h; clear h)
          | ((with_reducible refine (G10.out _ K28.out).mono ?_); rintro e X9 ⟨rfl, h⟩; have K29 : Hid (Kn w X9 p [(mx, unO kD), (mc, idO 2 1), (mb, idO 1 2), (ma, idO 1 1)] k4) := h; have s29 := HC2.out _ _ h; clear h))
        | (go_at_call 11; first
          | ((with_reducible refine (G12.out _ K30.out).mono ?_); rintro e X11 ⟨rfl, h⟩; have K31 : Hid (Kn w X11 p [(mx, unO kD), (mc, idO 2 1), (mb, idO 1 2), (ma, idO 1 1)] k5) := h; have s31 := HC2.out _ _ h; clear h)))
    all_goals (try go_wp2_with fail)
    all_goals go_ret
    all_goals exact ⟨rfl, K33.out.2.1⟩
end Go.Proofs.Ytnbphdmpbjahhaa
