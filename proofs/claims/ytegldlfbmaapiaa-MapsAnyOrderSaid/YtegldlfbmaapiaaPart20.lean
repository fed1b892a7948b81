/- The contract of value.Check. -/
import Derived.Test.YtegldlfbmaapiaaPart19
import Derived.Test.YtegldlfbmaapiaaPart7
import Derived.Test.YtegldlfbmaapiaaRef2c
import Derived.Test.YtegldlfbmaapiaaPart9
import Derived.Test.YtegldlfbmaapiaaRunes
import Derived.Test.YtegldlfbmaapiaaRowO
import Derived.Test.YtegldlfbmaapiaaPart2
import Derived.Test.YtegldlfbmaapiaaPart1
import Derived.Test.YtegldlfbmaapiaaProg
import Derived.Orders
import Derived.Deep.Cut
import Derived.LoopN
namespace Go.Proofs.Ytegldlfbmaapiaa
open Go.RowKit
set_option linter.unusedVariables false
set_option maxRecDepth 100000

end Go.Proofs.Ytegldlfbmaapiaa

/- Small ones: texts, keys, stamps, values that text can carry; the document's. -/
namespace Go.Proofs.Ytegldlfbmaapiaa
open Go.RowKit
set_option linter.unusedVariables false
set_option linter.unusedSimpArgs false
set_option maxRecDepth 100000

def textOk (s : ByteArray) : Bool := decide (1 ≤ (rsOf s.data.toList).length) && decide ((rsOf s.data.toList).length ≤ 4096)
def keyOk (s : ByteArray) : Bool := decide (1 ≤ s.size) && (decide (s.size ≤ 64) && (runesOf s.data.toList).isSome)
def stampOk (n : Int) : Bool := decide (1 ≤ n) && decide (n ≤ 9007199254740991)
def plainOk (v : V) : Bool := (refCheck v == 0) && (v.k != 5)

theorem none_any (c k : Int) (w : World) : Calls Try.prog 29 #[.agg #[.int .u64 c, .int .u64 k]] w fun e w' => e = .returned (.bool ((c == 0) && (k == 0))) ∧ Touch (fun _ => False) w w' := by
  obtain ⟨t1, e1⟩ : ∃ t1, (c == 0) = t1 := ⟨_, rfl⟩
  obtain ⟨t2, e2⟩ : ∃ t2, (k == 0) = t2 := ⟨_, rfl⟩
  rw [e1, e2]
  cases t1
  · go_enter Try.func29, Try.ntmps29
    go_wp2_with fail
    go_ret
    exact ⟨by simp, (Touch.refl _ _).alloc _⟩
  · cases t2
    · go_enter Try.func29, Try.ntmps29
      go_wp2_with fail
      go_ret
      exact ⟨by simp, (Touch.refl _ _).alloc _⟩
    · go_enter Try.func29, Try.ntmps29
      go_wp2_with fail
      go_ret
      exact ⟨by simp, (Touch.refl _ _).alloc _⟩
theorem rKey_any (s : ByteArray) (hs : s.size ≤ 17592186044416) (w : World) : Calls Try.prog 34 #[.string s] w fun e w' => e = .returned (.bool (keyOk s)) ∧ Touch (fun _ => False) w w' := by
  have HL : Hid (Calls Try.prog 32 #[.string s] w fun e w' => e = .returned (.bool (runesOf s.data.toList).isSome) ∧ Touch (fun _ => False) w w') := ref_check3 s hs w
  unfold keyOk
  generalize (runesOf s.data.toList).isSome = r at *
  by_cases h1 : 1 ≤ s.size
  · have g1 : (1 : Int) ≤ (s.size : Int) := by omega
    by_cases h2 : s.size ≤ 64
    · have g2 : (s.size : Int) ≤ 64 := by omega
      clear hs
      go_enter Try.func34, Try.ntmps34
      go_wp2_with fail
      refine HL.out.mono ?_
      rintro e w1 ⟨rfl, t⟩
      have HT : Hid (Touch (fun _ => False) w w1) := t
      clear t
      go_wp2_with fail
      go_ret
      exact ⟨by first | (simp [h1, h2]; done) | (simp [h1, h2]; omega), HT.out⟩
    · have g2 : ¬ (s.size : Int) ≤ 64 := by omega
      clear hs
      go_enter Try.func34, Try.ntmps34
      go_wp2_with fail
      go_ret
      exact ⟨by first | (simp [h1, h2]; done) | (simp [h1, h2]; omega), Touch.refl _ _⟩
  · have g1 : ¬ (1 : Int) ≤ (s.size : Int) := by omega
    clear hs
    go_enter Try.func34, Try.ntmps34
    go_wp2_with fail
    go_ret
    exact ⟨by first | (simp [h1]; done) | (simp; omega), Touch.refl _ _⟩
theorem zero_any (v : V) (hs : v.s.size ≤ 17592186044416) (w : World) : Calls Try.prog 33 #[v.val] w fun e w' => e = .returned (.bool ((v.k == 0) && (refCheck v == 0))) ∧ Touch (fun _ => False) w w' := by
  have HL : Hid (∀ W, Calls Try.prog 30 #[v.val] W fun e w' => e = .returned (.int .i64 (refCheck v)) ∧ Touch (fun _ => False) W w') := fun W => ref_check v hs W
  generalize refCheck v = C at *
  clear hs
  obtain ⟨k, n, f, s⟩ := v
  simp only [V.val] at *
  obtain ⟨t1, e1⟩ : ∃ t1, (k == 0) = t1 := ⟨_, rfl⟩
  obtain ⟨t2, e2⟩ : ∃ t2, (C == 0) = t2 := ⟨_, rfl⟩
  rw [e1, e2]
  cases t1
  · go_enter Try.func33, Try.ntmps33
    go_wp2_with fail
    go_ret
    exact ⟨by simp, (Touch.refl _ _).alloc _⟩
  · go_enter Try.func33, Try.ntmps33
    go_wp2_with fail
    refine (HL.out _).mono ?_
    rintro e w1 ⟨rfl, t⟩
    have HT : Hid (Touch (fun _ => False) w w1) := ((Touch.refl _ _).alloc _).trans t
    clear t
    go_wp2_with fail
    go_ret
    exact ⟨by simp, HT.out⟩
end Go.Proofs.Ytegldlfbmaapiaa

/- ops.rightForm. -/
namespace Go.Proofs.Ytegldlfbmaapiaa
open Go.RowKit
set_option linter.unusedVariables false
set_option linter.unusedSimpArgs false
set_option maxRecDepth 100000

def zeroV : V := ⟨0, 0, 0, ⟨#[]⟩⟩
/-- What a kind does not use. -/
def rest0 (o : O) : O := { o with c := 0, k := 0, kind := 0 }
def rest1 (o : O) : O := { o with c := 0, k := 0, kind := 0, tx := ⟨#[]⟩ }
def rest2 (o : O) : O := { o with c := 0, k := 0, kind := 0, lc := 0, lk := 0, rc := 0, rk := 0, vk := 0, vn := 0, vf := 0, vs := ⟨#[]⟩ }
def rest12 (o : O) : O := { o with c := 0, k := 0, kind := 0, tx := ⟨#[]⟩, lc := 0, lk := 0, rc := 0, rk := 0, vk := 0, vn := 0, vf := 0, vs := ⟨#[]⟩ }
def rest3 (o : O) : O := { o with c := 0, k := 0, kind := 0, fc := 0, fk := 0, fa := false, tc := 0, tk := 0, ta := false }
def rest4 (o : O) : O := { o with c := 0, k := 0, kind := 0, st := 0, ky := ⟨#[]⟩, vk := 0, vn := 0, vf := 0, vs := ⟨#[]⟩, pc := 0, pk := 0 }
def rest34 (o : O) : O := { o with c := 0, k := 0, kind := 0, fc := 0, fk := 0, fa := false, tc := 0, tk := 0, ta := false, st := 0, ky := ⟨#[]⟩, vk := 0, vn := 0, vf := 0, vs := ⟨#[]⟩, pc := 0, pk := 0 }
def formB (o : O) : Bool :=
  if o.kind = 1 then ((textOk o.tx && (refCmp o.v zeroV == 0)) && plainOk o.v) && sameO (rest12 o) zeroO
  else if o.kind = 2 then plainOk o.v && sameO (rest2 o) zeroO
  else if o.kind = 3 then (((plainOk o.v && ((o.pc == 0) && (o.pk == 0))) && keyOk o.ky && (refCheck o.v == 0)) && stampOk o.st) && sameO (rest34 o) zeroO
  else if o.kind = 4 then ((keyOk o.ky && (refCheck o.v == 0)) && stampOk o.st) && sameO (rest4 o) zeroO
  else false
/-- A store into a box, cells in a row. -/
theorem OpAt.stored {W : World} {B : Nat} {o o' : O} (h : OpAt B o W) (k : Nat) (vs : List Value) (e : ((vs.zipIdx k).foldl (fun (c : Array Value) x => c.setIfInBounds x.2 x.1) o.vals) = o'.vals) : OpAt B o' (W.setCells B k vs) := by
  have key : ∀ (vs : List Value) (k : Nat) (W : World) (c : Array Value), W.heap[B]? = some (.cells c 41 (0, 0)) → (W.setCells B k vs).heap[B]? = some (.cells ((vs.zipIdx k).foldl (fun (c : Array Value) x => c.setIfInBounds x.2 x.1) c) 41 (0, 0)) := by
    intro vs
    induction vs with
    | nil => intro k W c h; exact h
    | cons v r ih =>
      intro k W c h
      rw [World.setCells]
      exact ih (k + 1) _ _ (heap_setCell_same W B k v h)
  have := key vs k W o.vals h
  rw [e] at this
  exact this
theorem OpAt.stored_other {W : World} {B C : Nat} {o : O} (h : OpAt B o W) (hc : C ≠ B) (k : Nat) (vs : List Value) : OpAt B o (W.setCells C k vs) := by
  have key : ∀ (vs : List Value) (k : Nat) (W : World), (W.setCells C k vs).heap[B]? = W.heap[B]? := by
    intro vs
    induction vs with
    | nil => intro k W; rfl
    | cons v r ih =>
      intro k W
      rw [World.setCells, ih]
      exact heap_setCell_other _ _ _ _ hc
  exact (key vs k W).trans h
theorem Touch.stored {w W : World} {B : Nat} (t : Touch (fun _ => False) w W) (hB : w.heap.size ≤ B) (k : Nat) (vs : List Value) : Touch (fun _ => False) w (W.setCells B k vs) := by
  have key : ∀ (vs : List Value) (k : Nat) (W : World), Touch (fun _ => False) w W → Touch (fun _ => False) w (W.setCells B k vs) := by
    intro vs
    induction vs with
    | nil => intro k W t; exact t
    | cons v r ih =>
      intro k W t
      rw [World.setCells]
      exact ih (k + 1) _ (t.setCell ⟨B, k, none⟩ v (fun h => absurd h (by show ¬ B < _; omega)))
  exact key vs k W t
theorem OpAt.keepF {W W' : World} {B : Nat} {o : O} (h : OpAt B o W) (t : Touch (fun _ => False) W W') : OpAt B o W' := h.keep t
end Go.Proofs.Ytegldlfbmaapiaa

/- ops.names. -/
namespace Go.Proofs.Ytegldlfbmaapiaa
open Go.RowKit
set_option linter.unusedVariables false
set_option linter.unusedSimpArgs false
set_option maxRecDepth 100000

theorem cells_stored {W : World} {B : Nat} {C : Array Value} {t : TypeId} (h : W.heap[B]? = some (.cells C t (0, 0))) (k : Nat) (vs : List Value) : (W.setCells B k vs).heap[B]? = some (.cells ((vs.zipIdx k).foldl (fun (c : Array Value) x => c.setIfInBounds x.2 x.1) C) t (0, 0)) := by
  have key : ∀ (vs : List Value) (k : Nat) (W : World) (c : Array Value), W.heap[B]? = some (.cells c t (0, 0)) → (W.setCells B k vs).heap[B]? = some (.cells ((vs.zipIdx k).foldl (fun (c : Array Value) x => c.setIfInBounds x.2 x.1) c) t (0, 0)) := by
    intro vs
    induction vs with
    | nil => intro k W c h; exact h
    | cons v r ih =>
      intro k W c h
      rw [World.setCells]
      exact ih (k + 1) _ _ (heap_setCell_same W B k v h)
  exact key vs k W C h
theorem there_of_block {W : World} {B : Nat} {C : Array Value} {t : TypeId} (h : W.heap[B]? = some (.cells C t (0, 0))) (k n : Nat) (hk : k + n ≤ C.size) : W.there B k n := by
  intro j hj
  refine ⟨?_, free_of_block h⟩
  rw [cell_of_block h, Array.getElem?_eq_getElem (by omega)]
  rfl
/-- The ids that an operation may name. -/
def namesL (o : O) : List (Int × Int) := [(o.lc, o.lk), (o.rc, o.rk), (o.fc, o.fk), (o.tc, o.tk), (o.pc, o.pk)]
abbrev namesA (o : O) : Array Value := #[.int .u64 o.lc, .int .u64 o.lk, .int .u64 o.rc, .int .u64 o.rk, .int .u64 o.fc, .int .u64 o.fk, .int .u64 o.tc, .int .u64 o.tk, .int .u64 o.pc, .int .u64 o.pk]
end Go.Proofs.Ytegldlfbmaapiaa

/- The document's names. -/
namespace Go.Proofs.Ytegldlfbmaapiaa
open Go.RowKit
set_option linter.unusedVariables false
set_option linter.unusedSimpArgs false
set_option maxRecDepth 100000

set_option maxHeartbeats 4000000 in
theorem rnames_any (o : O) (w : World) : Calls Try.prog 35 #[o.val] w fun e w' => e = .returned (.slice (some ⟨w.heap.size + 1, 0, none⟩) 5 5) ∧ Touch (fun _ => False) w w' ∧ w'.heap[w.heap.size + 1]? = some (.cells (namesA o) 34 (0, 0)) := by
  go_enter Try.func35, Try.ntmps35
  go_upto_region 1 with fail
  obtain ⟨W0, hW0⟩ : ∃ W0, Hid (W0 = w.alloc (opO o)) := ⟨_, Eq.refl _⟩
  have HT0 : Hid (Touch (fun _ => False) w W0) := by rw [hW0.out]; exact (Touch.refl _ _).alloc _
  have hA : OpAt w.heap.size o W0 := by rw [hW0.out]; exact heap_alloc_new _ _
  have hz : W0.heap.size = w.heap.size + 1 := by rw [hW0.out]; simp
  rw [← hW0.out]
  clear hW0
  have q4 := hA.q4
  have q5 := hA.q5
  have q6 := hA.q6
  have q7 := hA.q7
  have q14 := hA.q14
  have q15 := hA.q15
  have q16 := hA.q16
  have q17 := hA.q17
  have q19 := hA.q19
  have q20 := hA.q20
  clear hA
  go_wp2_with fail
  go_ret
  refine ⟨rfl, HT0.out.alloc _, ?_⟩
  rw [← hz]
  exact heap_alloc_new _ _
end Go.Proofs.Ytegldlfbmaapiaa

/- Walks over frames that are held as an array with some slots known: for functions of many slots. -/
namespace Go.Proofs.Ytegldlfbmaapiaa
open Go.RowKit
set_option linter.unusedVariables false

theorem wp_abs {P : Program} {s : Code} {Q : Exit → Act → World → Prop} {T : Array Value} {ds : List Deferred} {w : World} (F : Array Value → Prop) (hF : F T) (h : ∀ T', F T' → s.wp P Q ⟨T', ds⟩ w) : s.wp P Q ⟨T, ds⟩ w := h T hF
theorem rounds_abs {P : Program} {s : Code} {n : Nat} {Q : Exit → Act → World → Prop} {T : Array Value} {ds : List Deferred} {w : World} (F : Array Value → Prop) (hF : F T) (h : ∀ T', F T' → Code.rounds P s Q n ⟨T', ds⟩ w) : Code.rounds P s Q n ⟨T, ds⟩ w := h T hF
theorem getD_set (T : Array Value) (i j : Nat) (v : Value) (h : i < T.size) : (T.setIfInBounds i v).getD j undef = if i = j then v else T.getD j undef := by
  simp only [Array.getD_eq_getD_getElem?, Array.getElem?_setIfInBounds]
  by_cases e : i = j
  · subst e; simp [h]
  · simp [e]
/-- A beginning of a region's operations, and what is so behind it. -/
def wpToR (P : Program) (ops : Array Oper) (Q : Exit → Act → World → Prop) (R : Act → World → Prop) : List Oper → Act → World → Prop
  | [], a, w => R a w
  | o :: rest, a, w => if Region.wanted o (yielded ops a.tmps) then o.wp P a w (wpToR P ops Q R rest) Q else wpToR P ops Q R rest (a.put o.dst undef) w
structure wpTo (P : Program) (ops : Array Oper) (Q : Exit → Act → World → Prop) (R : Act → World → Prop) (l : List Oper) (a : Act) (w : World) : Prop where
  out : wpToR P ops Q R l a w
section
variable {P : Program} {ops : Array Oper} {Q : Exit → Act → World → Prop} {R : Act → World → Prop} {w : World} {rest : List Oper} {o : Oper} {T : Array Value} {ds : List Deferred}
theorem wpTo_list : ∀ (l m : List Oper) (a : Act) (w : World), wpToR P ops Q R l a w → (∀ a' w', R a' w' → wpList P ops Q m a' w') → wpList P ops Q (l ++ m) a w
  | [], m, a, w, h, k => k a w h
  | o :: l, m, a, w, h, k => by
    rw [List.cons_append]
    refine wpList_step fun K hK => ?_
    unfold wpToR at h
    split
    · rename_i hw
      rw [if_pos hw] at h
      exact Oper.wp_mono (fun a' w' hh => hK a' w' (wpTo_list l m a' w' hh k)) h
    · rename_i hw
      rw [if_neg hw] at h
      exact hK _ _ (wpTo_list l m _ w h k)
theorem wpList_cutAt {l : List Oper} {a : Act} (n : Nat) (R : Act → World → Prop) (first : wpTo P ops Q R (l.take n) a w) (rest : ∀ a' w', R a' w' → wpList P ops Q (l.drop n) a' w') : wpList P ops Q l a w := by
  have := wpTo_list (l.take n) (l.drop n) a w first.out rest
  rwa [List.take_append_drop] at this
theorem wpTo_nil {a : Act} (h : R a w) : wpTo P ops Q R [] a w := ⟨h⟩
theorem wpTo_plain {a : Act} (hg : o.guard = none) (h : ∀ K : Act → World → Prop, (∀ a w, wpTo P ops Q R rest a w → K a w) → o.wp P a w K Q) : wpTo P ops Q R (o :: rest) a w := by
  refine ⟨?_⟩
  unfold wpToR
  rw [if_pos (by simp [Region.wanted, hg])]
  exact Oper.wp_mono (fun a w hh => hh.out) (h (fun a w => wpTo P ops Q R rest a w) (fun _ _ h => h))
theorem wanted_at (j d : Nat) (b : Bool) (hg : o.guard = some (j, true)) (hd : (ops[j]?).bind (·.dst) = some d) (hs : d < T.size) (hv : T.getD d undef = .bool b) : Region.wanted o (yielded ops T) = b := by
  unfold Region.wanted yielded
  have h : T[d]? = some (.bool b) := by
    rw [Array.getD_eq_getD_getElem?, Array.getElem?_eq_getElem hs, Option.getD_some] at hv
    rw [Array.getElem?_eq_getElem hs, hv]
  simp only [hg, hd, Option.bind_some, h]
  cases b <;> rfl
theorem wpTo_go (j d : Nat) (hg : o.guard = some (j, true)) (hd : (ops[j]?).bind (·.dst) = some d) (hs : d < T.size) (hv : T.getD d undef = .bool true) (h : ∀ K : Act → World → Prop, (∀ a w, wpTo P ops Q R rest a w → K a w) → o.wp P ⟨T, ds⟩ w K Q) : wpTo P ops Q R (o :: rest) ⟨T, ds⟩ w := by
  refine ⟨?_⟩
  unfold wpToR
  rw [if_pos (wanted_at j d true hg hd hs hv)]
  exact Oper.wp_mono (fun a w hh => hh.out) (h (fun a w => wpTo P ops Q R rest a w) (fun _ _ h => h))
theorem wpTo_skip (j d : Nat) (hg : o.guard = some (j, true)) (hd : (ops[j]?).bind (·.dst) = some d) (hs : d < T.size) (hv : T.getD d undef = .bool false) (h : wpTo P ops Q R rest ((⟨T, ds⟩ : Act).put o.dst undef) w) : wpTo P ops Q R (o :: rest) ⟨T, ds⟩ w := by
  refine ⟨?_⟩
  unfold wpToR
  rw [if_neg (by rw [wanted_at j d false hg hd hs hv]; simp)]
  exact h.out
end
end Go.Proofs.Ytegldlfbmaapiaa
