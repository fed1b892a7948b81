/- The contract of wire's Reader.number. -/
import Derived.Test.YtdblfabbmpdoiaaGreatTake
import Derived.Test.YtdblfabbmpdoiaaGreatPart5
namespace Go.Proofs.YtdblfabbmpdoiaaGreat
open Go.RowKit
set_option linter.unusedVariables false

/-- A number, read byte by byte: the error (0: none), the number, what is left. k: so many bytes were read; n: what they make. -/
def numGo : List UInt8 → Nat → Nat → Int × Nat × List UInt8
  | [], _, _ => (10, 0, [])
  | b :: r, k, n =>
    if (k = 9 ∧ 1 < b.toNat) ∨ (0 < k ∧ b.toNat = 0) then (11, 0, [])
    else if b.toNat < 128 then (0, n + b.toNat * 2 ^ (7 * k), r)
    else numGo r (k + 1) (n + (b.toNat - 128) * 2 ^ (7 * k))

theorem numGo_form {b : UInt8} {r : List UInt8} {k n : Nat} (h : (k = 9 ∧ 1 < b.toNat) ∨ (0 < k ∧ b.toNat = 0)) : numGo (b :: r) k n = (11, 0, []) := by
  rw [numGo, if_pos h]
theorem numGo_last {b : UInt8} {r : List UInt8} {k n : Nat} (h1 : ¬ (k = 9 ∧ 1 < b.toNat)) (h2 : ¬ (0 < k ∧ b.toNat = 0)) (h : b.toNat < 128) : numGo (b :: r) k n = (0, n + b.toNat * 2 ^ (7 * k), r) := by
  rw [numGo, if_neg (by intro h; rcases h with h | h <;> contradiction), if_pos h]
theorem numGo_more {b : UInt8} {r : List UInt8} {k n : Nat} (h1 : ¬ (k = 9 ∧ 1 < b.toNat)) (h : ¬ b.toNat < 128) : numGo (b :: r) k n = numGo r (k + 1) (n + (b.toNat - 128) * 2 ^ (7 * k)) := by
  rw [numGo, if_neg (by rintro (h | h) <;> omega), if_neg h]

theorem Lies.one {w : World} {g : Nat} {ao : Option Addr} {b : UInt8} {r : List UInt8} (h : Lies w g ao ((b :: r).take 1)) : ∃ off, ao = some ⟨g, off, none⟩ ∧ w.cell? ⟨g, off, none⟩ = some (.int .u8 b.toNat) := by
  rcases h with h | ⟨off, e, h⟩
  · simp at h
  · exact ⟨off, e, by simpa using h 0 (by simp)⟩

/-- What number leaves: the number, or a failure; the Reader is then as it may be. -/
def NumPost (p g : Nat) (bs : List UInt8) (er : Int) (most : Nat) (w : World) (e : Ending) (w' : World) : Prop :=
  Touch (· = p) w w' ∧ ∃ cs, Rd w' p g cs er ∧
  (((numGo bs 0 0).1 = 0 ∧ (numGo bs 0 0).2.1 ≤ most ∧ e = .returned (.int .u64 (numGo bs 0 0).2.1) ∧ cs = (numGo bs 0 0).2.2) ∨
   ((numGo bs 0 0).1 = 0 ∧ most < (numGo bs 0 0).2.1 ∧ e = .panicked [thrown 12]) ∨
   ((numGo bs 0 0).1 ≠ 0 ∧ e = .panicked [thrown (numGo bs 0 0).1]))

theorem NumPost.failed {p g : Nat} {bs cs : List UInt8} {er x : Int} {most : Nat} {w w' : World} (hT : Touch (· = p) w w') (hR : Rd w' p g cs er) (h : (numGo bs 0 0).1 = x) (hx : x ≠ 0) : NumPost p g bs er most w (.panicked [thrown x]) w' :=
  ⟨hT, cs, hR, .inr (.inr ⟨by rw [h]; exact hx, by rw [h]⟩)⟩
theorem NumPost.big {p g : Nat} {bs cs : List UInt8} {er : Int} {most V : Nat} {w w' : World} (hT : Touch (· = p) w w') (hR : Rd w' p g cs er) (h : numGo bs 0 0 = (0, V, cs)) (hx : most < V) : NumPost p g bs er most w (.panicked [thrown 12]) w' :=
  ⟨hT, cs, hR, .inr (.inl ⟨by rw [h], by rw [h]; exact hx, rfl⟩)⟩
theorem NumPost.read {p g : Nat} {bs cs : List UInt8} {er x : Int} {most V : Nat} {w w' : World} (hT : Touch (· = p) w w') (hR : Rd w' p g cs er) (h : numGo bs 0 0 = (0, V, cs)) (hx : V ≤ most) (e : x = V) : NumPost p g bs er most w (.returned (.int .u64 x)) w' :=
  ⟨hT, cs, hR, .inl ⟨by rw [h], by rw [h]; exact hx, by rw [h, e], by rw [h]⟩⟩

set_option maxRecDepth 100000 in
set_option maxHeartbeats 1000000 in
theorem number_any (p g : Nat) (bs : List UInt8) (er : Int) (most : Nat) (w : World) (h : Rd w p g bs er) (hm : most < 18446744073709551616) :
    Calls Tryz.prog 79 #[.pointer (some ⟨p, 0, none⟩), .int .u64 most] w (NumPost p g bs er most w) := by
  go_enter Tryz.func79, Tryz.ntmps79
  go_wp2_with fail
  go_loopw [5, 6] (fun n i wr => ∃ k N : Nat, ∃ cs : List UInt8, i = .int .i64 k ∧ n = .int .u64 N ∧ k ≤ 9 ∧ N < 2 ^ (7 * k) ∧ Rd wr p g cs er ∧ Touch (· = p) w wr ∧ numGo bs 0 0 = numGo cs k N) (fun _ i _ => (10 - intOf i).toNat)
  case atStart => exact ⟨0, 0, bs, rfl, rfl, by omega, by decide, h, Touch.refl _ _, rfl⟩
  case round =>
    obtain ⟨k, N, cs, rfl, rfl, hk, hN, hR, hT, he⟩ := hrel
    have HE : Hid (numGo bs 0 0 = numGo cs k N) := he
    clear he h
    cases cs with
    | nil =>
      go_wp2_with fail
      refine (take_short p g 1 [] er _ hR (by simp) (by omega) 1 rfl).mono ?_
      rintro e w1 ⟨rfl, hw⟩
      go_wp2
      exact ⟨rfl, NumPost.failed hT hR (by rw [HE.out]; rfl) (by decide)⟩
    | cons b r =>
      have hb := b.toNat_lt
      have F11 : Hid (∀ w, Calls Tryz.prog 63 #[.int .i64 11] w fun e w' => e = .panicked [thrown 11] ∧ w' = w) := fun w => fail_any 11 w (by decide)
      have F12 : Hid (∀ w, Calls Tryz.prog 63 #[.int .i64 12] w fun e w' => e = .panicked [thrown 12] ∧ w' = w) := fun w => fail_any 12 w (by decide)
      go_wp2_with fail
      refine (take_ok p g 1 (b :: r) er _ hR (by simp) 1 rfl).mono ?_
      rintro e w1 ⟨ao, cap, rfl, hL, hR1, hT1⟩
      obtain ⟨off, rfl, hcell⟩ := hL.one
      have HR : Hid (Rd w1 p g r er) := hR1
      have HT : Hid (Touch (· = p) w w1) := hT.trans hT1
      clear hL hR hR1 hT hT1
      by_cases h9 : k = 9 ∧ 1 < b.toNat
      · have H11 : Hid ((numGo bs 0 0).1 = 11) := by rw [Hid, HE.out, numGo_form (.inl h9)]
        obtain ⟨rfl, h1⟩ := h9
        go_wp2_with fail
        refine (F11.out _).mono ?_
        rintro e w2 ⟨rfl, hw2⟩
        subst hw2
        go_wp2
        exact ⟨rfl, NumPost.failed HT.out HR.out H11.out (by decide)⟩
      by_cases h0 : 0 < k ∧ b.toNat = 0
      · have H11 : Hid ((numGo bs 0 0).1 = 11) := by rw [Hid, HE.out, numGo_form (.inr h0)]
        go_wp2_with fail
        all_goals
          refine (F11.out _).mono ?_
          rintro e w2 ⟨rfl, hw2⟩
          subst hw2
          go_wp2
          exact ⟨rfl, NumPost.failed HT.out HR.out H11.out (by decide)⟩
      by_cases h128 : b.toNat < 128
      · have HV : Hid (numGo bs 0 0 = (0, N + b.toNat * 2 ^ (7 * k), r)) := by rw [Hid, HE.out, numGo_last h9 h0 h128]
        by_cases hk9 : k = 9
        · subst hk9
          have hb1 : b.toNat ≤ 1 := by omega
          have hb0 : ((b.toNat : Int) == 0) = false := by rw [beq_eq_false_iff_ne]; omega
          obtain ⟨hE, _⟩ := num_last b N hb1 hN
          by_cases hmv : most < N + b.toNat * 2 ^ (7 * 9)
          · have hx : (most : Int) < bits .or .u64 (N : Int) (IntKind.u64.wrap (IntKind.u64.wrap (bits .andNot .u8 (b.toNat : Int) 128) * 9223372036854775808)) := by rw [hE]; omega
            clear hE
            go_wp2_with fail
            refine (F12.out _).mono ?_
            rintro e w2 ⟨rfl, hw2⟩
            subst hw2
            go_wp2
            exact ⟨rfl, NumPost.big HT.out HR.out HV.out hmv⟩
          · have hx : ¬ (most : Int) < bits .or .u64 (N : Int) (IntKind.u64.wrap (IntKind.u64.wrap (bits .andNot .u8 (b.toNat : Int) 128) * 9223372036854775808)) := by rw [hE]; omega
            have HX : Hid (bits .or .u64 (N : Int) (IntKind.u64.wrap (IntKind.u64.wrap (bits .andNot .u8 (b.toNat : Int) 128) * 9223372036854775808)) = ((N + b.toNat * 2 ^ (7 * 9) : Nat) : Int)) := hE
            clear hE
            go_wp2_with fail
            go_ret
            exact NumPost.read HT.out HR.out HV.out (by omega) HX.out
        · obtain ⟨hE, _⟩ := num_step b k N (by omega) hN
          rw [Nat.mod_eq_of_lt h128] at hE
          have hk9' : ((k : Int) == 9) = false := by rw [beq_eq_false_iff_ne]; omega
          have hb0 : 0 < k → ((b.toNat : Int) == 0) = false := fun _ => by rw [beq_eq_false_iff_ne]; omega
          by_cases hmv : most < N + b.toNat * 2 ^ (7 * k)
          · have hx : (most : Int) < bits .or .u64 (N : Int) (IntKind.u64.wrap (IntKind.u64.wrap (bits .andNot .u8 (b.toNat : Int) 128) * 2 ^ (7 * k))) := by rw [hE]; omega
            clear hE
            go_wp2_with fail
            all_goals
              refine (F12.out _).mono ?_
              rintro e w2 ⟨rfl, hw2⟩
              subst hw2
              go_wp2
              exact ⟨rfl, NumPost.big HT.out HR.out HV.out hmv⟩
          · have hx : ¬ (most : Int) < bits .or .u64 (N : Int) (IntKind.u64.wrap (IntKind.u64.wrap (bits .andNot .u8 (b.toNat : Int) 128) * 2 ^ (7 * k))) := by rw [hE]; omega
            have HX : Hid (bits .or .u64 (N : Int) (IntKind.u64.wrap (IntKind.u64.wrap (bits .andNot .u8 (b.toNat : Int) 128) * 2 ^ (7 * k))) = ((N + b.toNat * 2 ^ (7 * k) : Nat) : Int)) := hE
            clear hE
            go_wp2_with fail
            all_goals
              go_ret
              exact NumPost.read HT.out HR.out HV.out (by omega) HX.out
      · have hk8 : k ≤ 8 := by omega
        have hk9' : ((k : Int) == 9) = false := by rw [beq_eq_false_iff_ne]; omega
        have HV : Hid (numGo bs 0 0 = numGo r (k + 1) (N + (b.toNat - 128) * 2 ^ (7 * k))) := by rw [Hid, HE.out, numGo_more h9 h128]
        obtain ⟨hE, hN'⟩ := num_step b k N hk8 hN
        rw [show b.toNat % 128 = b.toNat - 128 from by omega] at hE hN'
        have HX : Hid (bits .or .u64 (N : Int) (IntKind.u64.wrap (IntKind.u64.wrap (bits .andNot .u8 (b.toNat : Int) 128) * 2 ^ (7 * k))) = ((N + (b.toNat - 128) * 2 ^ (7 * k) : Nat) : Int)) := hE
        have HN : Hid (N + (b.toNat - 128) * 2 ^ (7 * k) < 2 ^ (7 * (k + 1))) := hN'
        have hb0 : ((b.toNat : Int) == 0) = false := by rw [beq_eq_false_iff_ne]; omega
        clear hE hN'
        go_wp2_with fail
        all_goals
          go_roundw
          case rel => exact ⟨k + 1, _, r, by go_num, by rw [HX.out], by omega, HN.out, HR.out, HT.out, HV.out⟩
          case measure => simp [intOf]; omega
end Go.Proofs.YtdblfabbmpdoiaaGreat
