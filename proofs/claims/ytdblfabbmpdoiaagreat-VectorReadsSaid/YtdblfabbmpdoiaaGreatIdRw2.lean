/- The contracts of the row's more, start, change, take, and of rowOf. -/
import Derived.Test.YtdblfabbmpdoiaaGreatIdNext
import Derived.BigQuiet
import Derived.Deep.QuietTactic
namespace Go.Proofs.YtdblfabbmpdoiaaGreat
open Go.RowKit Go.Maps
set_option linter.unusedVariables false
set_option linter.unusedSimpArgs false
set_option maxRecDepth 100000

set_option maxHeartbeats 800000 in
theorem start_any (x : Tn) (rv : Value) (r : Nat) (w : World) (hc : w.heap[r]? = some (rwO x rv)) :
    Calls Tryz.prog 83 #[rp r] w fun e w' => e = .returned (idV x.c x.f) ∧ Touch (fun _ => False) w w' := by
  have k0 : w.cell? ⟨r, 0, none⟩ = some (.int .u64 x.c) := by rw [cell_of_block hc]; rfl
  have k1 : w.cell? ⟨r, 1, none⟩ = some (.int .u64 x.f) := by rw [cell_of_block hc]; rfl
  have hlt := lt_of_heap hc
  have HT : Hid (Touch (fun _ => False) w ((w.alloc (idO x.c x.f)).drew)) := ((Touch.refl _ w).alloc _).drew
  clear hc
  go_enter Tryz.func83, Tryz.ntmps83
  go_wp2_with fail
  go_region
  all_goals (try go_wp2_with fail)
  all_goals exact bodyPost_ret (v := idV x.c x.f) (by simp [results, Tryz.results83, go_sem]) rfl ⟨rfl, HT.out⟩

def chg (x : Tn) (c k : Int) : Int := if x.c ≠ c then 9007199254740992 else if k < x.f then x.f else x.t
set_option maxHeartbeats 1600000 in
theorem change_any (x : Tn) (rv : Value) (r : Nat) (c k : Int) (w : World) (hc : w.heap[r]? = some (rwO x rv)) :
    Calls Tryz.prog 85 #[rp r, idV c k] w fun e w' => e = .returned (u64 (chg x c k)) ∧ Touch (fun _ => False) w w' := by
  have k0 : w.cell? ⟨r, 0, none⟩ = some (.int .u64 x.c) := by rw [cell_of_block hc]; rfl
  have k1 : w.cell? ⟨r, 1, none⟩ = some (.int .u64 x.f) := by rw [cell_of_block hc]; rfl
  have k2 : w.cell? ⟨r, 2, none⟩ = some (.int .u64 x.t) := by rw [cell_of_block hc]; rfl
  have hlt := lt_of_heap hc
  have HT : Hid (∀ q, Touch (fun _ => False) w ((w.alloc (idO c k)).drewN q)) := fun q => ⟨rfl, rfl, rfl, ((Touch.refl (fun _ => False) w).alloc _).size, ((Touch.refl (fun _ => False) w).alloc (idO c k)).block⟩
  clear hc
  unfold chg
  obtain ⟨xc, xf, xt, xn⟩ := x
  simp only at *
  by_cases h1 : xc = c
  · subst h1
    rw [if_neg (by simp)]
    by_cases h2 : k < xf
    · rw [if_pos h2]
      go_enter Tryz.func85, Tryz.ntmps85
      go_wp2_with fail
      go_quiet (fail)
      go_wp2_with fail
      go_quiet (fail)
      go_wp2_with fail
      go_ret
      exact ⟨rfl, HT.out _⟩
    · rw [if_neg h2]
      go_enter Tryz.func85, Tryz.ntmps85
      go_wp2_with fail
      go_quiet (fail)
      go_wp2_with fail
      go_quiet (fail)
      go_wp2_with fail
      go_ret
      exact ⟨rfl, HT.out _⟩
  · rw [if_pos h1]
    go_enter Tryz.func85, Tryz.ntmps85
    go_wp2_with fail
    go_quiet (fail)
    go_wp2_with fail
    go_ret
    exact ⟨rfl, HT.out _⟩
end Go.Proofs.YtdblfabbmpdoiaaGreat
