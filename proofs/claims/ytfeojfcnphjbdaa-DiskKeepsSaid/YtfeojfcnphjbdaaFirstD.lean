/- The contracts of disk's file.first, bytes.Clone. -/
import Derived.Test.YtfeojfcnphjbdaaDSmall
import Derived.Deep.RegionHeld3
import Derived.BigRegion
namespace Go.Proofs.Ytfeojfcnphjbdaa
open Go.RowKit Go.Maps
set_option linter.unusedVariables false

/-- How many bytes are left. -/
def cutAt (n : Int) (len : Nat) : Nat := min n.toNat len
/-- A file's first bytes. -/
def firstF (f : Fl) (n : Int) : Fl :=
  match f.v with
  | .slice ao _ cap => ⟨.slice ao (cutAt n f.bs.length) cap, f.bs.take (cutAt n f.bs.length), min f.syn (cutAt n f.bs.length)⟩
  | _ => f

set_option maxRecDepth 100000 in
set_option maxHeartbeats 800000 in
theorem first_raw (ao : Option Addr) (len cap syn c : Nat) (n : Int) (w : World) (hn : -9223372036854775808 ≤ n ∧ n ≤ 9223372036854775807) (hl : len ≤ 4194304) (hc : len ≤ cap) (hc2 : cap ≤ maxLen) (hs : syn ≤ len) (hnone : ao = none → cap = 0) (hcc : c = cutAt n len) :
    Calls Try.prog 54 #[.agg #[.slice ao len cap, .int .i64 (syn : Int)], .int .i64 n] w fun e w' => e = .returned (.agg #[.slice ao c cap, .int .i64 (min syn c : Nat)]) ∧ Touch (fun _ => False) w w' := by
  unfold maxLen at hc2
  by_cases h0 : 0 ≤ n
  · by_cases h1 : n ≤ len
    · obtain rfl : n = (c : Int) := by subst hcc; unfold cutAt; omega
      clear hcc h0
      have h1 : c ≤ len := by omega
      by_cases h2 : c < syn
      · rw [show min syn c = c from by omega]
        have h3 : (c : Int) < (syn : Int) := by omega
        go_enter Try.func54, Try.ntmps54
        go_wp2_with fail
        go_region
        all_goals go_wp2_with fail
        all_goals exact bodyPost_ret (v := .agg #[.slice ao c cap, .int .i64 (c : Nat)]) (by simp [results, Try.results54, go_sem]) rfl ⟨rfl, (((Touch.refl _ w).alloc _).alloc _).drew⟩
      · rw [show min syn c = syn from by omega]
        have h3 : ¬ (c : Int) < (syn : Int) := by omega
        go_enter Try.func54, Try.ntmps54
        go_wp2_with fail
        go_region
        all_goals go_wp2_with fail
        all_goals exact bodyPost_ret (v := .agg #[.slice ao c cap, .int .i64 (syn : Nat)]) (by simp [results, Try.results54, go_sem]) rfl ⟨rfl, (((Touch.refl _ w).alloc _).alloc _).drew⟩
    · obtain rfl : c = len := by subst hcc; unfold cutAt; omega
      clear hcc
      rw [show min syn c = syn from by omega]
      have h3 : ¬ (c : Int) < (syn : Int) := by omega
      go_enter Try.func54, Try.ntmps54
      go_wp2_with fail
      go_region
      all_goals go_wp2_with fail
      all_goals exact bodyPost_ret (v := .agg #[.slice ao c cap, .int .i64 (syn : Nat)]) (by simp [results, Try.results54, go_sem]) rfl ⟨rfl, (((Touch.refl _ w).alloc _).alloc _).drew⟩
  · obtain rfl : c = 0 := by subst hcc; unfold cutAt; omega
    clear hcc
    rw [show min syn 0 = 0 from by omega]
    rcases Nat.eq_zero_or_pos syn with rfl | h2
    · go_enter Try.func54, Try.ntmps54
      go_wp2_with fail
      go_region
      all_goals go_wp2_with fail
      all_goals exact bodyPost_ret (v := .agg #[.slice ao 0 cap, .int .i64 (0 : Nat)]) (by simp [results, Try.results54, go_sem]) rfl ⟨rfl, (((Touch.refl _ w).alloc _).alloc _).drew⟩
    · have h3 : (0 : Int) < (syn : Int) := by omega
      go_enter Try.func54, Try.ntmps54
      go_wp2_with fail
      go_region
      all_goals go_wp2_with fail
      all_goals exact bodyPost_ret (v := .agg #[.slice ao 0 cap, .int .i64 (0 : Nat)]) (by simp [results, Try.results54, go_sem]) rfl ⟨rfl, (((Touch.refl _ w).alloc _).alloc _).drew⟩
end Go.Proofs.Ytfeojfcnphjbdaa
