/- The document's Check, as a Bool. -/
import Derived.Test.YtphcnjbiojdalaaGreatDoorRChkL
import Derived.Test.YtphcnjbiojdalaaGreatDoorPart13
import Derived.Test.YtphcnjbiojdalaaGreatDoorOpCk
namespace Go.Proofs.YtphcnjbiojdalaaGreatDoor
open Go.RowKit
set_option linter.unusedVariables false
set_option linter.unusedSimpArgs false
set_option maxRecDepth 100000

def kindB (o : O) : Bool :=
  if o.kind = 1 then ((((((((((namedB o.lc o.lk && namedB o.rc o.rk) && (runesOf o.tx.data.toList).isSome) && decide ((1 : Int) ≤ ((rsOf o.tx.data.toList).length : Int))) && decide (((rsOf o.tx.data.toList).length : Int) ≤ 4096)) && decide (IntKind.u64.wrap (IntKind.u64.wrap (o.k + ((rsOf o.tx.data.toList).length : Int)) - 1) ≤ 9007199254740991)) && decide (o.st = 0)) && ((o.v.k == 0) && (refCheck o.v == 0))) && decide (o.ky.toList = [])) && ((o.pc == 0) && (o.pk == 0))) && (((o.fc == 0) && ((o.fk == 0) && !o.fa)) && ((o.tc == 0) && ((o.tk == 0) && !o.ta))))
  else if o.kind = 2 then ((((((((namedB o.lc o.lk && namedB o.rc o.rk) && (refCheck o.v == 0)) && decide (¬ o.vk = 5)) && decide (o.st = 0)) && decide (o.tx.toList = [])) && decide (o.ky.toList = [])) && ((o.pc == 0) && (o.pk == 0))) && (((o.fc == 0) && ((o.fk == 0) && !o.fa)) && ((o.tc == 0) && ((o.tk == 0) && !o.ta))))
  else if o.kind = 3 then (((((((((((o.lc == 0) && (o.lk == 0)) && ((o.rc == 0) && (o.rk == 0))) && namedB o.fc o.fk) && namedB o.tc o.tk) && keyOk o.ky) && (refCheck o.v == 0)) && decide (¬ o.vk = 5)) && (decide (1 ≤ o.st) && decide (o.st ≤ 9007199254740991))) && decide (o.tx.toList = [])) && ((o.pc == 0) && (o.pk == 0)))
  else if o.kind = 4 then (((((((((o.lc == 0) && (o.lk == 0)) && ((o.rc == 0) && (o.rk == 0))) && (((o.fc == 0) && ((o.fk == 0) && !o.fa)) && ((o.tc == 0) && ((o.tk == 0) && !o.ta)))) && namedB o.pc o.pk) && keyOk o.ky) && (refCheck o.v == 0)) && (decide (1 ≤ o.st) && decide (o.st ≤ 9007199254740991))) && decide (o.tx.toList = []))
  else false
theorem opErr_f : opErr false = 120 := rfl
theorem opErr_t : opErr true = 0 := rfl
/-- It names none of its own. -/
def freeB (o : O) : Bool := !ownB o o.lc o.lk && (!ownB o o.rc o.rk && (!ownB o o.fc o.fk && (!ownB o o.tc o.tk && !ownB o o.pc o.pk)))
def rchk (o : O) : Bool := (numOk o.c && numOk o.k) && (kindB o && freeB o)
end Go.Proofs.YtphcnjbiojdalaaGreatDoor
