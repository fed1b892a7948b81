/- The document's marks: Same (as MkO1, without package marks). -/
import Derived.Test.YtijkekkjiboomaaGreatDoorPart5
import Derived.Test.YtijkekkjiboomaaGreatDoorPart20
import Derived.Deep.RegionHeld3
import Derived.BigQuiet
namespace Go.Proofs.YtijkekkjiboomaaGreatDoor
open Go.RowKit
set_option linter.unusedVariables false
set_option linter.unusedSimpArgs false
set_option maxRecDepth 100000

set_option maxHeartbeats 8000000 in
theorem qsame_any {w : World} {va vb : Value} {a b : List Mk} (hA : SlY w va a) (hB : SlY w vb b) (fa : ∀ m ∈ a, m.vf < 18446744073709551616) (fb : ∀ m ∈ b, m.vf < 18446744073709551616) :
    Calls Tryz.prog 48 #[va, vb] w fun e w' => e = .returned (.bool (sameL a b)) ∧ Touch (fun _ => False) w w' := by
  obtain ⟨ao, ac, rfl, a1, a2, a3⟩ := hA.shape
  obtain ⟨bo, bc, rfl, b1, b2, b3⟩ := hB.shape
  have HA : Hid (a ≠ [] → _) := hA.at
  have HB : Hid (b ≠ [] → _) := hB.at
  have HF : Hid (∀ j (h1 : j < a.length) (h2 : j < b.length) W, Calls Tryz.prog 68 #[.agg #[.int .i64 a[j].vk, .int .i64 a[j].vn, .float .f64 a[j].vf, .string a[j].vs], .agg #[.int .i64 b[j].vk, .int .i64 b[j].vn, .float .f64 b[j].vf, .string b[j].vs]] W fun e w' => e = .returned (.int .i64 (refCmp a[j].v b[j].v)) ∧ Touch (fun _ => False) W w') := fun j h1 h2 W => ref_cmp a[j].v b[j].v (fa _ (List.getElem_mem h1)) (fb _ (List.getElem_mem h2)) W
  clear hA hB fa fb
  by_cases hn : a.length = b.length
  · have HN : Hid (a.length = b.length) := hn
    have HNo : Hid (∀ j (h1 : j < a.length) (h2 : j < b.length), sameK a[j] b[j] = false → sameL a b = false) := fun j h1 h2 => sameL_no hn h1 h2
    have HAll : Hid ((∀ j (ha : j < a.length) (hb : j < b.length), sameK a[j] b[j] = true) → sameL a b = true) := sameL_all hn
    have hnb : ((a.length : Int) != (b.length : Int)) = false := by simp [hn]
    clear hn
    generalize sameL a b = R at *
    go_enter Tryz.func48, Tryz.ntmps48
    go_wp2_with fail
    clear hnb
    go_loopw [5] (fun i wr => ∃ j : Nat, i = .int .i64 (j : Int) ∧ j ≤ a.length ∧ Touch (fun _ => False) w wr ∧ ∀ k (h1 : k < a.length) (h2 : k < b.length), k < j → sameK a[k] b[k] = true) (fun i _ => a.length - (intOf i).toNat)
    case atStart => exact ⟨0, rfl, Nat.zero_le _, Touch.refl _ _, fun k _ _ h => absurd h (Nat.not_lt_zero _)⟩
    case round =>
      obtain ⟨j, rfl, hj, hT, hk⟩ := hrel
      by_cases hlt : j < a.length
      · have hltb : j < b.length := by rw [← HN.out]; exact hlt
        obtain ⟨ab, ax, rfl, hca⟩ := HA.out (by intro e; subst e; simp at hlt)
        obtain ⟨bb, bx, rfl, hcb⟩ := HB.out (by intro e; subst e; simp at hltb)
        have HCA : Hid (∀ W, Touch (fun _ => False) w W → _) := fun W t => hca W t j hlt
        have HCB : Hid (∀ W, Touch (fun _ => False) w W → _) := fun W t => hcb W t j hltb
        have HC := HF.out j hlt hltb
        have HNj : Hid (sameK a[j] b[j] = false → R = false) := HNo.out j hlt hltb
        have hi1 : (0 : Int) ≤ (j : Int) := by omega
        have hi2 : (j : Int) < (a.length : Int) := by omega
        have hi3 : (j : Int) < (b.length : Int) := by omega
        have hjm : (j : Int) + 1 < 9223372036854775808 := by omega
        have HU : Hid (∀ W, Touch (fun _ => False) w W → sameK a[j] b[j] = true → ∃ j' : Nat, (.int .i64 ((j : Int) + 1) : Value) = .int .i64 (j' : Int) ∧ j' ≤ a.length ∧ Touch (fun _ => False) w W ∧ ∀ k (h1 : k < a.length) (h2 : k < b.length), k < j' → sameK a[k] b[k] = true) := fun W t e => ⟨j + 1, by go_num, by omega, t, fun k h1 h2 h3 => by
          rcases Nat.lt_or_eq_of_le (Nat.le_of_lt_succ h3) with h | h
          · exact hk k h1 h2 h
          · subst h; exact e⟩
        have HT : Hid (Touch (fun _ => False) w wr) := hT
        have hm0 : Hid (a.length - (j + 1) < a.length - j) := by rw [Hid]; omega
        have HK0 : Hid (sameK a[j] b[j] = ((a[j].ky.toList == b[j].ky.toList) && (refCmp a[j].v b[j].v == 0))) := Eq.refl _
        clear hk hT hca hcb HA HB HF HN HNo HAll a1 b1 hj
        generalize a[j] = x at *
        generalize b[j] = y at *
        clear hlt hltb
        have HC' : Hid (∀ W, Calls Tryz.prog 68 #[.agg #[.int .i64 x.vk, .int .i64 x.vn, .float .f64 x.vf, .string x.vs], .agg #[.int .i64 y.vk, .int .i64 y.vn, .float .f64 y.vf, .string y.vs]] W fun e w' => e = .returned (.int .i64 (refCmp x.v y.v)) ∧ Touch (fun _ => False) W w') := HC
        clear HC
        generalize sameK x y = sk at *
        generalize refCmp x.v y.v = rc at *
        obtain ⟨xk, xvk, xvn, xvf, xvs⟩ := x
        obtain ⟨yk, yvk, yvn, yvf, yvs⟩ := y
        simp only at HCA HCB HC' HK0
        cases hkk : (xk.toList == yk.toList) with
        | false =>
          have hkn : (xk.toList != yk.toList) = true := by rw [bne, hkk]; rfl
          have HS : Hid (R = false) := HNj.out (by rw [HK0.out, hkk]; rfl)
          obtain ⟨x0, x1, x2, x3, x4⟩ := HCA.out wr HT.out
          obtain ⟨y0, y1, y2, y3, y4⟩ := HCB.out wr HT.out
          clear HNj HU HCA HCB HC' HK0
          go_wp2_with fail
          go_quiet (fail)
          go_wp2_with fail
          go_ret
          exact ⟨by rw [HS.out]; rfl, HT.out.drewN _⟩
        | true =>
          have hkn : (xk.toList != yk.toList) = false := by rw [bne, hkk]; rfl
          have HK1 : Hid (sk = (rc == 0)) := by rw [Hid, HK0.out, hkk]; rfl
          clear HK0
          obtain ⟨x0, x1, x2, x3, x4⟩ := HCA.out wr.drew HT.out.drew
          obtain ⟨y0, y1, y2, y3, y4⟩ := HCB.out wr.drew HT.out.drew
          go_wp2_with fail
          go_region_held3 (fun W => (W.cell? ⟨ab, ax + j * 5, none⟩ = some (.string xk) ∧ W.cell? ⟨ab, ax + j * 5 + 1, none⟩ = some (.int .i64 xvk) ∧ W.cell? ⟨ab, ax + j * 5 + 2, none⟩ = some (.int .i64 xvn) ∧ W.cell? ⟨ab, ax + j * 5 + 3, none⟩ = some (.float .f64 xvf) ∧ W.cell? ⟨ab, ax + j * 5 + 4, none⟩ = some (.string xvs)) ∧ (W.cell? ⟨bb, bx + j * 5, none⟩ = some (.string yk) ∧ W.cell? ⟨bb, bx + j * 5 + 1, none⟩ = some (.int .i64 yvk) ∧ W.cell? ⟨bb, bx + j * 5 + 2, none⟩ = some (.int .i64 yvn) ∧ W.cell? ⟨bb, bx + j * 5 + 3, none⟩ = some (.float .f64 yvf) ∧ W.cell? ⟨bb, bx + j * 5 + 4, none⟩ = some (.string yvs)) ∧ Hid (Touch (fun _ => False) w W)) (first | assumption | exact ⟨⟨x0, x1, x2, x3, x4⟩, ⟨y0, y1, y2, y3, y4⟩, HT.out.drew⟩)
            (first
              | (go_at_call 68; (with_reducible refine (HC'.out _).mono ?_); rintro e w2 ⟨rfl, t2⟩; have hS2 : (w2.cell? ⟨ab, ax + j * 5, none⟩ = some (.string xk) ∧ w2.cell? ⟨ab, ax + j * 5 + 1, none⟩ = some (.int .i64 xvk) ∧ w2.cell? ⟨ab, ax + j * 5 + 2, none⟩ = some (.int .i64 xvn) ∧ w2.cell? ⟨ab, ax + j * 5 + 3, none⟩ = some (.float .f64 xvf) ∧ w2.cell? ⟨ab, ax + j * 5 + 4, none⟩ = some (.string xvs)) ∧ (w2.cell? ⟨bb, bx + j * 5, none⟩ = some (.string yk) ∧ w2.cell? ⟨bb, bx + j * 5 + 1, none⟩ = some (.int .i64 yvk) ∧ w2.cell? ⟨bb, bx + j * 5 + 2, none⟩ = some (.int .i64 yvn) ∧ w2.cell? ⟨bb, bx + j * 5 + 3, none⟩ = some (.float .f64 yvf) ∧ w2.cell? ⟨bb, bx + j * 5 + 4, none⟩ = some (.string yvs)) ∧ Hid (Touch (fun _ => False) w w2) := ⟨HCA.out _ ((HT.out.drew).trans t2), HCB.out _ ((HT.out.drew).trans t2), (HT.out.drew).trans t2⟩; clear t2))
          rename_i hHeld
          have HT2 : Hid (Touch (fun _ => False) w w2) := hS2.2.2.out
          clear hHeld hS2 x0 x1 x2 x3 x4 y0 y1 y2 y3 y4 HCA HCB HC' HT hkk hkn
          obtain ⟨z, hz⟩ : ∃ z, z = (rc != 0) := ⟨_, rfl⟩
          rw [← hz]
          have HK2 : Hid (sk = !z) := by rw [Hid, HK1.out, hz, bne, Bool.not_not]
          clear hz HK1
          cases z with
          | true =>
            have HS : Hid (R = false) := HNj.out HK2.out
            clear HNj HU HK2
            go_wp2_with fail
            go_ret
            exact ⟨by rw [HS.out]; rfl, HT2.out⟩
          | false =>
            have HU3 : Hid _ := HU.out w2 HT2.out HK2.out
            clear HNj HU HK2
            go_wp2_with fail
            go_roundw
            case rel => exact HU3.out
            case measure => simp only [intOf]; have := hm0.out; omega
      · have hR : Hid (R = true) := HAll.out fun k h1 h2 => hk k h1 h2 (by omega)
        have hi2 : ¬ (j : Int) < (a.length : Int) := by omega
        have HT : Hid (Touch (fun _ => False) w wr) := hT
        clear hk hT hlt HA HB HF HN HNo HAll a1 b1 hj
        go_wp2_with fail
        go_ret
        exact ⟨by rw [hR.out]; rfl, HT.out⟩
  · have hnb : ((a.length : Int) != (b.length : Int)) = true := by simp; omega
    have HR : Hid (sameL a b = false) := by unfold sameL; rw [Hid, decide_eq_false hn]; rfl
    rw [HR.out]
    clear HR HA HB HF hn
    go_enter Tryz.func48, Tryz.ntmps48
    go_wp2_with fail
    go_ret
    exact ⟨rfl, Touch.refl _ _⟩
end Go.Proofs.YtijkekkjiboomaaGreatDoor
