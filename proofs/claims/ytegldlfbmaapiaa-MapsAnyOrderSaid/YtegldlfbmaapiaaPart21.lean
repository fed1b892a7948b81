/- The document's small functions of ids: right, less, Right. -/
import Derived.Test.YtegldlfbmaapiaaPart2
import Derived.Test.YtegldlfbmaapiaaPart20
import Derived.Test.YtegldlfbmaapiaaIdHas
import Derived.Test.YtegldlfbmaapiaaRChkL
namespace Go.Proofs.Ytegldlfbmaapiaa
open Go.RowKit
set_option linter.unusedVariables false
set_option linter.unusedSimpArgs false
set_option maxRecDepth 100000

def lessR (a b : Rg) : Bool := decide (a.c < b.c ∨ (a.c = b.c ∧ a.f < b.f))
set_option maxHeartbeats 800000 in
theorem rRight_any (c k : Int) (w : World) : Calls Try.prog 27 #[idV c k] w fun e w' => e = .returned (.bool (numOk c && numOk k)) ∧ w' = w.alloc (idO c k) := by
  unfold numOk
  by_cases h1 : 1 ≤ c
  · by_cases h2 : c ≤ 9007199254740991
    · by_cases h3 : 1 ≤ k
      · by_cases h4 : k ≤ 9007199254740991
        · go_enter Try.func27, Try.ntmps27
          go_wp2_with fail
          go_ret
          exact ⟨by simp [h1, h2, h3, h4], rfl⟩
        · go_enter Try.func27, Try.ntmps27
          go_wp2_with fail
          go_ret
          exact ⟨by simp [h1, h2, h3, h4], rfl⟩
      · go_enter Try.func27, Try.ntmps27
        go_wp2_with fail
        go_ret
        exact ⟨by simp; omega, rfl⟩
    · go_enter Try.func27, Try.ntmps27
      go_wp2_with fail
      go_ret
      exact ⟨by simp; omega, rfl⟩
  · go_enter Try.func27, Try.ntmps27
    go_wp2_with fail
    go_ret
    exact ⟨by simp; omega, rfl⟩
end Go.Proofs.Ytegldlfbmaapiaa

/- The document's named. -/
namespace Go.Proofs.Ytegldlfbmaapiaa
open Go.RowKit
set_option linter.unusedVariables false
set_option linter.unusedSimpArgs false
set_option maxRecDepth 100000

/-- No id, or a right one. -/
def namedB (c k : Int) : Bool := ((c == 0) && (k == 0)) || (numOk c && numOk k)
set_option maxHeartbeats 2000000 in
theorem named_any (c k : Int) (w : World) : Calls Try.prog 28 #[idV c k] w fun e w' => e = .returned (.bool (namedB c k)) ∧ Touch (fun _ => False) w w' := by
  have HN : Hid (∀ W, Calls Try.prog 29 #[idV c k] W fun e w' => e = .returned (.bool ((c == 0) && (k == 0))) ∧ Touch (fun _ => False) W w') := fun W => none_any c k W
  have HR : Hid (∀ W, Calls Try.prog 27 #[idV c k] W fun e w' => e = .returned (.bool (numOk c && numOk k)) ∧ Touch (fun _ => False) W w') := fun W => (rRight_any c k W).mono (by rintro e w2 ⟨rfl, rfl⟩; exact ⟨rfl, (Touch.refl _ _).alloc _⟩)
  unfold namedB
  generalize ((c == 0) && (k == 0)) = n at *
  generalize (numOk c && numOk k) = r at *
  go_enter Try.func28, Try.ntmps28
  go_wp2_with fail
  refine (HN.out _).mono ?_
  rintro e w1 ⟨rfl, t⟩
  have q0 := (t.cell (b := w.heap.size) (by simp) id 0).trans (by simp : _ = some (Value.int .u64 c))
  have q1 := (t.cell (b := w.heap.size) (by simp) id 1).trans (by simp : _ = some (Value.int .u64 k))
  have HT : Hid (Touch (fun _ => False) w w1) := ((Touch.refl _ _).alloc _).trans t
  clear t HN
  cases n
  · go_wp2_with fail
    refine (HR.out _).mono ?_
    rintro e w2 ⟨rfl, t⟩
    have HT2 : Hid (Touch (fun _ => False) w w2) := HT.out.trans t
    clear t HR
    go_wp2_with fail
    go_ret
    exact ⟨by simp, HT2.out⟩
  · go_wp2_with fail
    go_ret
    exact ⟨by simp, HT.out⟩
end Go.Proofs.Ytegldlfbmaapiaa

/- ops.rightIds. -/
namespace Go.Proofs.Ytegldlfbmaapiaa
open Go.RowKit
set_option linter.unusedVariables false
set_option linter.unusedSimpArgs false
set_option maxRecDepth 100000

def rgOf (o : O) : Rg := ⟨o.c, o.k, endO o⟩
/-- A name: no id, or a right one that is none of r's. -/
def nameOk (r : Rg) (p : Int × Int) : Bool := ((p.1 == 0) && (p.2 == 0)) || ((numOk p.1 && numOk p.2) && !hasB [r] p.1 p.2)
def idsB (o : O) : Bool := ((numOk o.c && numOk o.k) && decide (endO o ≤ 9007199254740992)) && (namesL o).all (nameOk (rgOf o))
theorem has_one (r : Rg) (c k : Int) (W : World) : Calls Try.prog 59 #[.slice (some ⟨W.heap.size, 0, none⟩) 1 1, idV c k] (W.alloc (rgO r)) fun e w' => e = .returned (.bool (hasB [r] c k)) ∧ Touch (fun _ => False) W w' :=
  (has_any [r] (.slice (some ⟨W.heap.size, 0, none⟩) 1 1) c k (W.alloc (rgO r)) ⟨some ⟨W.heap.size, 0, none⟩, 1, rfl, (fun h => by cases h), Nat.le_refl _, by decide, LiesR.new W r⟩ (by simp)).mono (by rintro e w2 ⟨rfl, t⟩; exact ⟨rfl, ((Touch.refl _ _).alloc _).trans t⟩)
end Go.Proofs.Ytegldlfbmaapiaa

/- ops.Check. -/
namespace Go.Proofs.Ytegldlfbmaapiaa
open Go.RowKit
set_option linter.unusedVariables false
set_option linter.unusedSimpArgs false
set_option maxRecDepth 100000

def opErr (b : Bool) : Int := match b with | true => 0 | false => 120
def checkB (o : O) : Bool := formB o && idsB o
end Go.Proofs.Ytegldlfbmaapiaa

/- The document's Check, as a Bool. -/
namespace Go.Proofs.Ytegldlfbmaapiaa
open Go.RowKit
set_option linter.unusedVariables false
set_option linter.unusedSimpArgs false
set_option maxRecDepth 100000

def kindB (o : O) : Bool :=
  if o.kind = 1 then ((((((((((namedB o.lc o.lk && namedB o.rc o.rk) && (runesOf o.tx.data.toList).isSome) && decide ((1 : Int) ≤ ((rsOf o.tx.data.toList).length : Int))) && decide (((rsOf o.tx.data.toList).length : Int) ≤ 4096)) && decide (IntKind.u64.wrap (IntKind.u64.wrap (o.k + ((rsOf o.tx.data.toList).length : Int)) - 1) ≤ 9007199254740991)) && decide (o.st = 0)) && ((o.v.k == 0) && (refCheck o.v == 0))) && decide (o.ky.toList = [])) && ((o.pc == 0) && (o.pk == 0))) && (((o.fc == 0) && ((o.fk == 0) && !o.fa)) && ((o.tc == 0) && ((o.tk == 0) && !o.ta))))
  else if o.kind = 2 then ((((((((namedB o.lc o.lk && namedB o.rc o.rk) && (refCheck o.v == 0)) && decide (¬ o.vk = 5)) && decide (o.st = 0)) && decide (o.tx.toList = [])) && decide (o.ky.toList = [])) && ((o.pc == 0) && (o.pk == 0))) && (((o.fc == 0) && ((o.fk == 0) && !o.fa)) && ((o.tc == 0) && ((o.tk == 0) && !o.ta))))
  else if o.kind = 3 then (((((((((((o.lc == 0) && (o.lk == 0)) && ((o.rc == 0) && (o.rk == 0))) && namedB o.fc o.fk) && namedB o.tc o.tk) && keyOk o.ky) && (refCheck o.v == 0)) && decide (¬ o.vk = 5)) && (decide (1 ≤ o.st) && decide (o.st ≤ 9007199254740991))) && decide (o.tx.toList = [])) && ((o.pc == 0) && (o.pk == 0)))
  else if o.kind = 4 then (((((((((o.lc == 0) && (o.lk == 0)) && ((o.rc == 0) && (o.rk == 0))) && (((o.fc == 0) && ((o.fk == 0) && !o.fa)) && ((o.tc == 0) && ((o.tk == 0) && !o.ta)))) && namedB o.pc o.pk) && keyOk o.ky) && (refCheck o.v == 0)) && (decide (1 ≤ o.st) && decide (o.st ≤ 9007199254740991))) && decide (o.tx.toList = []))
  else false
theorem opErr_f : opErr false = 120 := rfl
theorem opErr_t : opErr true = 0 := rfl
/-- It names none of its own. -/
def freeB (o : O) : Bool := !ownB o o.lc o.lk && (!ownB o o.rc o.rk && (!ownB o o.fc o.fk && (!ownB o o.tc o.tk && !ownB o o.pc o.pk)))
def rchk (o : O) : Bool := (numOk o.c && numOk o.k) && (kindB o && freeB o)
end Go.Proofs.Ytegldlfbmaapiaa
