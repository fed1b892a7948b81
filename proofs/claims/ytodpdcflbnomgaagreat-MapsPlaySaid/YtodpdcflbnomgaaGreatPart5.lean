/- The heap of maps' ranks, no Go in it: what comes in, and which one of those that are shown is found. -/
import Derived.Test.YtodpdcflbnomgaaGreatPart1
import Derived.Test.YtodpdcflbnomgaaGreatPart2
import Derived.Deep.Cut
namespace Go.Proofs.YtodpdcflbnomgaaGreat
set_option linter.unusedVariables false
set_option linter.unusedSimpArgs false
set_option linter.unusedSectionVars false

/-- A whole order, as a test. -/
structure LtOk {α : Type} (lt : α → α → Bool) : Prop where
  irr : ∀ a, lt a a = false
  trans : ∀ a b c, lt a b = true → lt b c = true → lt a c = true
  neg : ∀ a b c, lt a b = false → lt b c = false → lt a c = false
namespace Heap
variable {α : Type} [Inhabited α] (lt : α → α → Bool)

theorem asym {lt : α → α → Bool} (L : LtOk lt) {a b : α} (h : lt a b = true) : lt b a = false := by
  cases e : lt b a with
  | false => rfl
  | true => rw [← L.irr a]; exact (L.trans a b a h e).symm

/-- Two places change what they hold. -/
def swap (r : List α) (i j : Nat) : List α := (r.set i (r.getD j default)).set j (r.getD i default)
@[simp] theorem swap_length (r : List α) (i j : Nat) : (swap r i j).length = r.length := by simp [swap]
theorem getD_set (r : List α) (i j : Nat) (x : α) (hi : i < r.length) : (r.set i x).getD j default = if i = j then x else r.getD j default := by
  simp only [List.getD_eq_getElem?_getD, List.getElem?_set]
  by_cases h : i = j
  · subst h; simp [hi]
  · simp [h]
theorem swap_get (r : List α) (i j k : Nat) (hi : i < r.length) (hj : j < r.length) :
    (swap r i j).getD k default = if k = j then r.getD i default else if k = i then r.getD j default else r.getD k default := by
  unfold swap
  rw [getD_set _ _ _ _ (by simpa using hj), getD_set _ _ _ _ hi]
  by_cases h1 : j = k
  · rw [if_pos h1, if_pos h1.symm]
  · rw [if_neg h1, if_neg (fun h => h1 (Eq.symm h))]
    by_cases h2 : i = k
    · rw [if_pos h2, if_pos h2.symm]
    · rw [if_neg h2, if_neg (fun h => h2 (Eq.symm h))]
theorem mem_swap (r : List α) (i j : Nat) (hi : i < r.length) (hj : j < r.length) (x : α) : x ∈ swap r i j ↔ x ∈ r := by
  have key : ∀ (s : List α), x ∈ s ↔ ∃ k, k < s.length ∧ s.getD k default = x := by
    intro s
    rw [List.mem_iff_getElem]
    constructor
    · rintro ⟨k, hk, e⟩; exact ⟨k, hk, by rw [List.getD_eq_getElem?_getD, List.getElem?_eq_getElem hk]; exact e⟩
    · rintro ⟨k, hk, e⟩; exact ⟨k, hk, by rw [List.getD_eq_getElem?_getD, List.getElem?_eq_getElem hk] at e; exact e⟩
  rw [key, key]
  constructor
  · rintro ⟨k, hk, e⟩
    rw [swap_length] at hk
    rw [swap_get r i j k hi hj] at e
    by_cases h1 : k = j
    · rw [if_pos h1] at e; exact ⟨i, hi, e⟩
    · rw [if_neg h1] at e
      by_cases h2 : k = i
      · rw [if_pos h2] at e; exact ⟨j, hj, e⟩
      · rw [if_neg h2] at e; exact ⟨k, hk, e⟩
  · rintro ⟨k, hk, e⟩
    by_cases h1 : k = i
    · refine ⟨j, by simpa using hj, ?_⟩
      rw [swap_get r i j j hi hj, if_pos rfl, ← h1]; exact e
    · by_cases h2 : k = j
      · refine ⟨i, by simpa using hi, ?_⟩
        rw [swap_get r i j i hi hj]
        by_cases h3 : i = j
        · rw [if_pos h3, h3, ← h2]; exact e
        · rw [if_neg h3, if_pos rfl, ← h2]; exact e
      · refine ⟨k, by simpa using hk, ?_⟩
        rw [swap_get r i j k hi hj, if_neg h2, if_neg h1]; exact e

/-- One at place i goes up as long as the one above it is less. -/
def up (r : List α) (i : Nat) : List α :=
  if h : i = 0 then r else
  if lt (r.getD ((i - 1) / 2) default) (r.getD i default) = true then up (swap r ((i - 1) / 2) i) ((i - 1) / 2) else r
termination_by i
decreasing_by omega
def withO (r : List α) (o : α) : List α := up lt (r ++ [o]) r.length

def Ok (r : List α) : Prop := ∀ i, 0 < i → i < r.length → lt (r.getD ((i - 1) / 2) default) (r.getD i default) = false
/-- A heap but for place i, whose own two are no greater than the one above it. -/
def But (r : List α) (i : Nat) : Prop :=
  (∀ j, 0 < j → j < r.length → j ≠ i → lt (r.getD ((j - 1) / 2) default) (r.getD j default) = false) ∧
  (∀ j, 0 < i → 0 < j → j < r.length → (j - 1) / 2 = i → lt (r.getD ((i - 1) / 2) default) (r.getD j default) = false)

theorem up_spec (L : LtOk lt) : ∀ (i : Nat) (r : List α), i < r.length → But lt r i →
    Ok lt (up lt r i) ∧ (up lt r i).length = r.length ∧ ∀ x, x ∈ up lt r i ↔ x ∈ r := by
  intro i
  induction i using Nat.strongRecOn with
  | _ i ih =>
    intro r hi hb
    rw [up]
    by_cases h0 : i = 0
    · rw [dif_pos h0]
      exact ⟨fun j hj hl => hb.1 j hj hl (by omega), rfl, fun _ => Iff.rfl⟩
    · rw [dif_neg h0]
      by_cases hc : lt (r.getD ((i - 1) / 2) default) (r.getD i default) = true
      · rw [if_pos hc]
        have ha : (i - 1) / 2 < i := by omega
        have hal : (i - 1) / 2 < r.length := by omega
        have hb' : But lt (swap r ((i - 1) / 2) i) ((i - 1) / 2) := by
          refine ⟨fun j hj hl hne => ?_, fun j hp hj hl hpar => ?_⟩
          · rw [swap_length] at hl
            rw [swap_get r _ _ _ hal hi, swap_get r _ _ _ hal hi]
            by_cases h1 : j = i
            · subst h1
              rw [if_pos rfl, if_neg (by omega), if_pos rfl]
              exact asym L hc
            · rw [if_neg h1, if_neg hne]
              by_cases h2 : (j - 1) / 2 = i
              · rw [if_pos h2]
                exact hb.2 j (by omega) hj hl h2
              · rw [if_neg h2]
                by_cases h3 : (j - 1) / 2 = (i - 1) / 2
                · rw [if_pos h3]
                  have e1 := hb.1 j hj hl h1
                  rw [h3] at e1
                  exact L.neg _ _ _ (asym L hc) e1
                · rw [if_neg h3]
                  exact hb.1 j hj hl h1
          · rw [swap_length] at hl
            rw [swap_get r _ _ _ hal hi, swap_get r _ _ _ hal hi]
            have hpp : ((i - 1) / 2 - 1) / 2 < (i - 1) / 2 := by omega
            rw [if_neg (by omega), if_neg (by omega)]
            have e0 := hb.1 ((i - 1) / 2) hp hal (by omega)
            by_cases h1 : j = i
            · rw [if_pos h1]; exact e0
            · rw [if_neg h1, if_neg (by omega)]
              have e1 := hb.1 j hj hl h1
              rw [hpar] at e1
              exact L.neg _ _ _ e0 e1
        obtain ⟨h1, h2, h3⟩ := ih _ ha (swap r ((i - 1) / 2) i) (by simpa using hal) hb'
        exact ⟨h1, by rw [h2, swap_length], fun x => (h3 x).trans (mem_swap r _ _ hal hi x)⟩
      · rw [if_neg hc]
        refine ⟨fun j hj hl => ?_, rfl, fun _ => Iff.rfl⟩
        by_cases h1 : j = i
        · subst h1; simpa using hc
        · exact hb.1 j hj hl h1
theorem getD_left (r : List α) (o : α) (j : Nat) (h : j < r.length) : (r ++ [o]).getD j default = r.getD j default := by
  simp only [List.getD_eq_getElem?_getD]; rw [List.getElem?_append_left h]
theorem with_spec (L : LtOk lt) (r : List α) (o : α) (h : Ok lt r) :
    Ok lt (withO lt r o) ∧ (withO lt r o).length = r.length + 1 ∧ ∀ x, x ∈ withO lt r o ↔ x ∈ r ∨ x = o := by
  have hb : But lt (r ++ [o]) r.length := by
    refine ⟨fun j hj hl hne => ?_, fun j _ hj hl hpar => ?_⟩
    · have : j < r.length := by simp at hl; omega
      rw [getD_left r o j this, getD_left r o _ (by omega)]
      exact h j hj this
    · simp at hl; omega
  obtain ⟨h1, h2, h3⟩ := up_spec lt L r.length (r ++ [o]) (by simp) hb
  exact ⟨h1, by rw [withO, h2]; simp, fun x => by rw [withO, h3]; simp⟩

/-- The place of the greatest that is shown, at place i and below it. -/
def fromN (sh : α → Bool) (r : List α) (i : Nat) : Int :=
  if h : r.length ≤ i then -1 else
  if sh (r.getD i default) = true then i else
  if fromN sh r (2 * i + 1) < 0 ∨ (0 ≤ fromN sh r (2 * i + 2) ∧ lt (r.getD (fromN sh r (2 * i + 1)).toNat default) (r.getD (fromN sh r (2 * i + 2)).toNat default) = true)
  then fromN sh r (2 * i + 2) else fromN sh r (2 * i + 1)
termination_by r.length - i
decreasing_by all_goals omega
/-- y is at place i or below it. -/
inductive Sub (i : Nat) : Nat → Prop
  | self : Sub i i
  | down {y : Nat} : 0 < y → Sub i ((y - 1) / 2) → Sub i y
theorem Sub.le {i y : Nat} (h : Sub i y) : i ≤ y := by
  induction h with
  | self => exact Nat.le_refl _
  | down h _ ih => omega
theorem Sub.all (y : Nat) : Sub 0 y := by
  induction y using Nat.strongRecOn with
  | _ y ih =>
    by_cases h : y = 0
    · subst h; exact .self
    · exact .down (by omega) (ih _ (by omega))
theorem Sub.cases {i y : Nat} (h : Sub i y) : y = i ∨ Sub (2 * i + 1) y ∨ Sub (2 * i + 2) y := by
  induction h with
  | self => exact .inl rfl
  | @down y h hs ih =>
    rcases ih with e | e | e
    · have : y = 2 * i + 1 ∨ y = 2 * i + 2 := by omega
      rcases this with rfl | rfl
      · exact .inr (.inl .self)
      · exact .inr (.inr .self)
    · exact .inr (.inl (.down h e))
    · exact .inr (.inr (.down h e))
theorem Sub.left {i y : Nat} (h : Sub (2 * i + 1) y) : Sub i y := by
  induction h with
  | self => exact .down (by omega) (by rw [show (2 * i + 1 - 1) / 2 = i by omega]; exact .self)
  | down h _ ih => exact .down h ih
theorem Sub.right {i y : Nat} (h : Sub (2 * i + 2) y) : Sub i y := by
  induction h with
  | self => exact .down (by omega) (by rw [show (2 * i + 2 - 1) / 2 = i by omega]; exact .self)
  | down h _ ih => exact .down h ih
/-- Under a heap's place nothing is greater. -/
theorem Ok.sub {lt : α → α → Bool} (L : LtOk lt) {r : List α} (h : Ok lt r) {i y : Nat} (hs : Sub i y) : y < r.length → lt (r.getD i default) (r.getD y default) = false := by
  induction hs with
  | self => exact fun _ => L.irr _
  | @down y hp _ ih => exact fun hl => L.neg _ _ _ (ih (by omega)) (h y hp hl)
def Best (sh : α → Bool) (r : List α) (i : Nat) (x : Int) : Prop :=
  (x = -1 ∧ ∀ y, Sub i y → y < r.length → sh (r.getD y default) = false) ∨
  (∃ n : Nat, x = n ∧ n < r.length ∧ Sub i n ∧ sh (r.getD n default) = true ∧ ∀ y, Sub i y → y < r.length → sh (r.getD y default) = true → lt (r.getD n default) (r.getD y default) = false)
theorem from_spec (L : LtOk lt) (sh : α → Bool) (r : List α) (h : Ok lt r) : ∀ (m i : Nat), r.length - i ≤ m → Best lt sh r i (fromN lt sh r i) := by
  intro m
  induction m with
  | zero =>
    intro i hi
    rw [fromN, dif_pos (by omega)]
    exact .inl ⟨rfl, fun y hs hl => absurd hs.le (by omega)⟩
  | succ m ih =>
    intro i hi
    rw [fromN]
    by_cases h0 : r.length ≤ i
    · rw [dif_pos h0]
      exact .inl ⟨rfl, fun y hs hl => absurd hs.le (by omega)⟩
    · rw [dif_neg h0]
      by_cases h1 : sh (r.getD i default) = true
      · rw [if_pos h1]
        exact .inr ⟨i, rfl, by omega, .self, h1, fun y hs hl _ => h.sub L hs hl⟩
      · rw [if_neg h1]
        have hl := ih (2 * i + 1) (by omega)
        have hr := ih (2 * i + 2) (by omega)
        generalize fromN lt sh r (2 * i + 1) = a at *
        generalize fromN lt sh r (2 * i + 2) = b at *
        have h1' : sh (r.getD i default) = false := by simpa using h1
        rcases hl with ⟨rfl, ha⟩ | ⟨n, rfl, n1, n2, n3, n4⟩
        · rw [if_pos (.inl (by decide))]
          rcases hr with ⟨rfl, hb⟩ | ⟨k, rfl, k1, k2, k3, k4⟩
          · refine .inl ⟨rfl, fun y hs hy => ?_⟩
            rcases hs.cases with rfl | e | e
            · exact h1'
            · exact ha y e hy
            · exact hb y e hy
          · refine .inr ⟨k, rfl, k1, k2.right, k3, fun y hs hy hsh => ?_⟩
            rcases hs.cases with rfl | e | e
            · rw [h1'] at hsh; cases hsh
            · rw [ha y e hy] at hsh; cases hsh
            · exact k4 y e hy hsh
        · rcases hr with ⟨rfl, hb⟩ | ⟨k, rfl, k1, k2, k3, k4⟩
          · rw [if_neg (by rintro (e | ⟨e, _⟩) <;> omega)]
            refine .inr ⟨n, rfl, n1, n2.left, n3, fun y hs hy hsh => ?_⟩
            rcases hs.cases with rfl | e | e
            · rw [h1'] at hsh; cases hsh
            · exact n4 y e hy hsh
            · rw [hb y e hy] at hsh; cases hsh
          · rw [Int.toNat_natCast, Int.toNat_natCast]
            by_cases hc : lt (r.getD n default) (r.getD k default) = true
            · rw [if_pos (.inr ⟨by omega, hc⟩)]
              refine .inr ⟨k, rfl, k1, k2.right, k3, fun y hs hy hsh => ?_⟩
              rcases hs.cases with rfl | e | e
              · rw [h1'] at hsh; cases hsh
              · exact L.neg _ _ _ (asym L hc) (n4 y e hy hsh)
              · exact k4 y e hy hsh
            · rw [if_neg (by rintro (e | ⟨_, e⟩); · omega
                             · exact hc e)]
              have hc' : lt (r.getD n default) (r.getD k default) = false := by simpa using hc
              refine .inr ⟨n, rfl, n1, n2.left, n3, fun y hs hy hsh => ?_⟩
              rcases hs.cases with rfl | e | e
              · rw [h1'] at hsh; cases hsh
              · exact n4 y e hy hsh
              · exact L.neg _ _ _ hc' (k4 y e hy hsh)
/-- greatest: of those in the row that are shown none is greater. -/
theorem great_spec (L : LtOk lt) (sh : α → Bool) (r : List α) (h : Ok lt r) :
    (fromN lt sh r 0 = -1 ∧ ∀ x ∈ r, sh x = false) ∨
    (∃ n : Nat, fromN lt sh r 0 = n ∧ n < r.length ∧ r.getD n default ∈ r ∧ sh (r.getD n default) = true ∧ ∀ x ∈ r, sh x = true → lt (r.getD n default) x = false) := by
  have key : ∀ x ∈ r, ∃ k, k < r.length ∧ r.getD k default = x := by
    intro x hx
    obtain ⟨k, hk, e⟩ := List.mem_iff_getElem.1 hx
    exact ⟨k, hk, by rw [List.getD_eq_getElem?_getD, List.getElem?_eq_getElem hk]; exact e⟩
  rcases from_spec lt L sh r h r.length 0 (by omega) with ⟨e, ha⟩ | ⟨n, e, h1, _, h3, h4⟩
  · refine .inl ⟨e, fun x hx => ?_⟩
    obtain ⟨k, hk, rfl⟩ := key x hx
    exact ha k (.all k) hk
  · refine .inr ⟨n, e, h1, ?_, h3, fun x hx hs => ?_⟩
    · rw [List.getD_eq_getElem?_getD, List.getElem?_eq_getElem h1]; exact List.getElem_mem h1
    · obtain ⟨k, hk, rfl⟩ := key x hx
      exact h4 k (.all k) hk hs
end Heap
end Go.Proofs.YtodpdcflbnomgaaGreat

/- marks.Less, for seats whose road has no sequence. -/
namespace Go.Proofs.YtodpdcflbnomgaaGreat
open Go.RowKit
set_option linter.unusedVariables false
set_option linter.unusedSimpArgs false
set_option maxRecDepth 100000

def lessM (a b : O) : Bool := if a.st = b.st then lessI a.c a.k b.c b.k else decide (a.st < b.st)
theorem opO_head {W : World} {m : Nat} {o : O} (h : W.heap[m]? = some (opO o)) : W.cell? ⟨m, 0, none⟩ = some (.int .u64 o.c) ∧ W.cell? ⟨m, 1, none⟩ = some (.int .u64 o.k) ∧ W.cell? ⟨m, 2, none⟩ = some (.int .i64 o.kind) ∧ W.cell? ⟨m, 3, none⟩ = some (.int .u64 o.st) ∧ W.cell? ⟨m, 9, none⟩ = some (.int .i64 o.vk) ∧ W.cell? ⟨m, 13, none⟩ = some (.string o.ky) :=
  ⟨by rw [cell_of_block h]; rfl, by rw [cell_of_block h]; rfl, by rw [cell_of_block h]; rfl, by rw [cell_of_block h]; rfl, by rw [cell_of_block h]; rfl, by rw [cell_of_block h]; rfl⟩
set_option maxHeartbeats 8000000 in
theorem mless_any (x y : O) (w : World) :
    Calls Tryz.prog 55 #[x.val, y.val] w fun e w' => e = .returned (.bool (lessM x y)) ∧ Touch (fun _ => False) w w' := by
  obtain ⟨E, hE⟩ : ∃ E, Hid (E = (w.alloc (opO x)).alloc (opO y)) := ⟨_, Eq.refl _⟩
  have HTE : Hid (Touch (fun _ => False) w E) := by rw [hE.out]; exact ((Touch.refl _ _).alloc _).alloc _
  have HB : Hid (E.heap[w.heap.size]? = some (opO x) ∧ E.heap[w.heap.size + 1]? = some (opO y)) := by
    rw [hE.out]
    refine ⟨(Below.heap_alloc _ _ _ (by simp)).trans (heap_alloc_new _ _), ?_⟩
    have := heap_alloc_new (w.alloc (opO x)) (opO y)
    simpa using this
  obtain ⟨x0, x1, -, x3, -, -⟩ := opO_head HB.out.1
  obtain ⟨y0, y1, -, y3, -, -⟩ := opO_head HB.out.2
  have HL : Hid (∀ W, Calls Tryz.prog 68 #[.agg #[.int .u64 x.c, .int .u64 x.k], .agg #[.int .u64 y.c, .int .u64 y.k]] W fun e w' => e = .returned (.bool (lessI x.c x.k y.c y.k)) ∧ Touch (fun _ => False) W w') := fun W => (less_any x.c x.k y.c y.k W).mono fun e w' q => ⟨q.1, by rw [q.2]; exact ((Touch.refl _ _).alloc _).alloc _⟩
  obtain ⟨mb, hmb⟩ : ∃ mb, Hid (mb = lessM x y) := ⟨_, Eq.refl _⟩
  rw [← hmb.out]
  unfold lessM at hmb
  obtain ⟨xc, xk, xkind, xst, xlc, xlk, xrc, xrk, xtx, xvk, xvn, xvf, xvs, xky, xpc, xpk, xfc, xfk, xfa, xtc, xtk, xta⟩ := x
  obtain ⟨yc, yk, ykind, yst, ylc, ylk, yrc, yrk, ytx, yvk, yvn, yvf, yvs, yky, ypc, ypk, yfc, yfk, yfa, ytc, ytk, yta⟩ := y
  simp only at x0 x1 x3 y0 y1 y3 HL hmb ⊢
  clear HB
  go_enter Tryz.func55, Tryz.ntmps55
  go_upto_region 1 with fail
  rw [← hE.out]
  clear hE
  by_cases hst : xst = yst
  · subst hst
    have HM : Hid (mb = lessI xc xk yc yk) := by have := hmb.out; rw [if_pos rfl] at this; exact this
    have b0 : (xst == xst) = true := by simp
    go_wp2_with fail
    refine (HL.out _).mono ?_
    rintro e W1 ⟨rfl, t1⟩
    have HT : Hid (Touch (fun _ => False) w W1) := HTE.out.trans t1
    clear t1 HL x0 x1 x3 y0 y1 y3
    go_wp2_with fail
    go_ret
    exact ⟨by rw [HM.out]; rfl, HT.out⟩
  · have HM : Hid (mb = decide (xst < yst)) := by have := hmb.out; rw [if_neg hst] at this; exact this
    have b0 : (xst == yst) = false := by simpa using hst
    go_wp2_with fail
    go_ret
    exact ⟨by rw [HM.out]; rfl, HTE.out⟩
end Go.Proofs.YtodpdcflbnomgaaGreat
