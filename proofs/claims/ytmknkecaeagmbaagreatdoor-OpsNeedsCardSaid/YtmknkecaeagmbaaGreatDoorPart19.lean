/- The document's small functions of ids: right, less, Right. -/
import Derived.Test.YtmknkecaeagmbaaGreatDoorPart6
import Derived.Test.YtmknkecaeagmbaaGreatDoorPart10
import Derived.Test.YtmknkecaeagmbaaGreatDoorRChkL
import Derived.Test.YtmknkecaeagmbaaGreatDoorPart14
namespace Go.Proofs.YtmknkecaeagmbaaGreatDoor
open Go.RowKit
set_option linter.unusedVariables false
set_option linter.unusedSimpArgs false
set_option maxRecDepth 100000

set_option maxHeartbeats 800000 in
theorem rright_any (r : Rg) (w : World) : Calls Tryz.prog 59 #[rgV r] w fun e w' => e = .returned (.bool r.ok) ∧ w' = w.alloc (rgO r) := by
  obtain ⟨c, f, t⟩ := r
  unfold Rg.ok numOk
  simp only
  by_cases h1 : 1 ≤ c
  · by_cases h2 : c ≤ 9007199254740991
    · by_cases h3 : 1 ≤ f
      · by_cases h4 : f < t
        · by_cases h5 : t ≤ 9007199254740992
          · go_enter Tryz.func59, Tryz.ntmps59
            go_wp2_with fail
            go_ret
            exact ⟨by simp [h1, h2, h3, h4, h5], rfl⟩
          · go_enter Tryz.func59, Tryz.ntmps59
            go_wp2_with fail
            go_ret
            exact ⟨by simp [h1, h2, h3, h4, h5], rfl⟩
        · go_enter Tryz.func59, Tryz.ntmps59
          go_wp2_with fail
          go_ret
          exact ⟨by simp; omega, rfl⟩
      · go_enter Tryz.func59, Tryz.ntmps59
        go_wp2_with fail
        go_ret
        exact ⟨by simp; omega, rfl⟩
    · go_enter Tryz.func59, Tryz.ntmps59
      go_wp2_with fail
      go_ret
      exact ⟨by simp; omega, rfl⟩
  · go_enter Tryz.func59, Tryz.ntmps59
    go_wp2_with fail
    go_ret
    exact ⟨by simp; omega, rfl⟩
def lessR (a b : Rg) : Bool := decide (a.c < b.c ∨ (a.c = b.c ∧ a.f < b.f))
set_option maxHeartbeats 800000 in
theorem rlessR_any (a b : Rg) (w : World) : Calls Tryz.prog 60 #[rgV a, rgV b] w fun e w' => e = .returned (.bool (lessR a b)) ∧ w' = (w.alloc (rgO a)).alloc (rgO b) := by
  obtain ⟨c, f, t⟩ := a
  obtain ⟨c', f', t'⟩ := b
  unfold lessR
  simp only
  by_cases h2 : c < c'
  · go_enter Tryz.func60, Tryz.ntmps60
    go_wp2_with fail
    go_ret
    exact ⟨by simp [h2], rfl⟩
  · by_cases h1 : c = c'
    · subst h1
      go_enter Tryz.func60, Tryz.ntmps60
      go_wp2_with fail
      go_ret
      exact ⟨by simp, rfl⟩
    · go_enter Tryz.func60, Tryz.ntmps60
      go_wp2_with fail
      go_ret
      exact ⟨by simp; omega, rfl⟩
set_option maxHeartbeats 800000 in
theorem rRight_any (c k : Int) (w : World) : Calls Tryz.prog 37 #[idV c k] w fun e w' => e = .returned (.bool (numOk c && numOk k)) ∧ w' = w.alloc (idO c k) := by
  unfold numOk
  by_cases h1 : 1 ≤ c
  · by_cases h2 : c ≤ 9007199254740991
    · by_cases h3 : 1 ≤ k
      · by_cases h4 : k ≤ 9007199254740991
        · go_enter Tryz.func37, Tryz.ntmps37
          go_wp2_with fail
          go_ret
          exact ⟨by simp [h1, h2, h3, h4], rfl⟩
        · go_enter Tryz.func37, Tryz.ntmps37
          go_wp2_with fail
          go_ret
          exact ⟨by simp [h1, h2, h3, h4], rfl⟩
      · go_enter Tryz.func37, Tryz.ntmps37
        go_wp2_with fail
        go_ret
        exact ⟨by simp; omega, rfl⟩
    · go_enter Tryz.func37, Tryz.ntmps37
      go_wp2_with fail
      go_ret
      exact ⟨by simp; omega, rfl⟩
  · go_enter Tryz.func37, Tryz.ntmps37
    go_wp2_with fail
    go_ret
    exact ⟨by simp; omega, rfl⟩
end Go.Proofs.YtmknkecaeagmbaaGreatDoor

/- The document's named. -/
namespace Go.Proofs.YtmknkecaeagmbaaGreatDoor
open Go.RowKit
set_option linter.unusedVariables false
set_option linter.unusedSimpArgs false
set_option maxRecDepth 100000

/-- No id, or a right one. -/
def namedB (c k : Int) : Bool := ((c == 0) && (k == 0)) || (numOk c && numOk k)
set_option maxHeartbeats 2000000 in
theorem named_any (c k : Int) (w : World) : Calls Tryz.prog 38 #[idV c k] w fun e w' => e = .returned (.bool (namedB c k)) ∧ Touch (fun _ => False) w w' := by
  have HN : Hid (∀ W, Calls Tryz.prog 39 #[idV c k] W fun e w' => e = .returned (.bool ((c == 0) && (k == 0))) ∧ Touch (fun _ => False) W w') := fun W => none_any c k W
  have HR : Hid (∀ W, Calls Tryz.prog 37 #[idV c k] W fun e w' => e = .returned (.bool (numOk c && numOk k)) ∧ Touch (fun _ => False) W w') := fun W => (rRight_any c k W).mono (by rintro e w2 ⟨rfl, rfl⟩; exact ⟨rfl, (Touch.refl _ _).alloc _⟩)
  unfold namedB
  generalize ((c == 0) && (k == 0)) = n at *
  generalize (numOk c && numOk k) = r at *
  go_enter Tryz.func38, Tryz.ntmps38
  go_wp2_with fail
  refine (HN.out _).mono ?_
  rintro e w1 ⟨rfl, t⟩
  have q0 := (t.cell (b := w.heap.size) (by simp) id 0).trans (by simp : _ = some (Value.int .u64 c))
  have q1 := (t.cell (b := w.heap.size) (by simp) id 1).trans (by simp : _ = some (Value.int .u64 k))
  have HT : Hid (Touch (fun _ => False) w w1) := ((Touch.refl _ _).alloc _).trans t
  clear t HN
  cases n
  · go_wp2_with fail
    refine (HR.out _).mono ?_
    rintro e w2 ⟨rfl, t⟩
    have HT2 : Hid (Touch (fun _ => False) w w2) := HT.out.trans t
    clear t HR
    go_wp2_with fail
    go_ret
    exact ⟨by simp, HT2.out⟩
  · go_wp2_with fail
    go_ret
    exact ⟨by simp, HT.out⟩
end Go.Proofs.YtmknkecaeagmbaaGreatDoor

/- The document's Check, as a Bool. -/
namespace Go.Proofs.YtmknkecaeagmbaaGreatDoor
open Go.RowKit
set_option linter.unusedVariables false
set_option linter.unusedSimpArgs false
set_option maxRecDepth 100000

def kindB (o : O) : Bool :=
  if o.kind = 1 then ((((((((((namedB o.lc o.lk && namedB o.rc o.rk) && (runesOf o.tx.data.toList).isSome) && decide ((1 : Int) ≤ ((rsOf o.tx.data.toList).length : Int))) && decide (((rsOf o.tx.data.toList).length : Int) ≤ 4096)) && decide (IntKind.u64.wrap (IntKind.u64.wrap (o.k + ((rsOf o.tx.data.toList).length : Int)) - 1) ≤ 9007199254740991)) && decide (o.st = 0)) && ((o.v.k == 0) && (refCheck o.v == 0))) && decide (o.ky.toList = [])) && ((o.pc == 0) && (o.pk == 0))) && (((o.fc == 0) && ((o.fk == 0) && !o.fa)) && ((o.tc == 0) && ((o.tk == 0) && !o.ta))))
  else if o.kind = 2 then ((((((((namedB o.lc o.lk && namedB o.rc o.rk) && (refCheck o.v == 0)) && decide (¬ o.vk = 5)) && decide (o.st = 0)) && decide (o.tx.toList = [])) && decide (o.ky.toList = [])) && ((o.pc == 0) && (o.pk == 0))) && (((o.fc == 0) && ((o.fk == 0) && !o.fa)) && ((o.tc == 0) && ((o.tk == 0) && !o.ta))))
  else if o.kind = 3 then (((((((((((o.lc == 0) && (o.lk == 0)) && ((o.rc == 0) && (o.rk == 0))) && namedB o.fc o.fk) && namedB o.tc o.tk) && keyOk o.ky) && (refCheck o.v == 0)) && decide (¬ o.vk = 5)) && (decide (1 ≤ o.st) && decide (o.st ≤ 9007199254740991))) && decide (o.tx.toList = [])) && ((o.pc == 0) && (o.pk == 0)))
  else if o.kind = 4 then (((((((((o.lc == 0) && (o.lk == 0)) && ((o.rc == 0) && (o.rk == 0))) && (((o.fc == 0) && ((o.fk == 0) && !o.fa)) && ((o.tc == 0) && ((o.tk == 0) && !o.ta)))) && namedB o.pc o.pk) && keyOk o.ky) && (refCheck o.v == 0)) && (decide (1 ≤ o.st) && decide (o.st ≤ 9007199254740991))) && decide (o.tx.toList = []))
  else false
theorem opErr_f : opErr false = 120 := rfl
theorem opErr_t : opErr true = 0 := rfl
/-- It names none of its own. -/
def freeB (o : O) : Bool := !ownB o o.lc o.lk && (!ownB o o.rc o.rk && (!ownB o o.fc o.fk && (!ownB o o.tc o.tk && !ownB o o.pc o.pk)))
def rchk (o : O) : Bool := (numOk o.c && numOk o.k) && (kindB o && freeB o)
end Go.Proofs.YtmknkecaeagmbaaGreatDoor
