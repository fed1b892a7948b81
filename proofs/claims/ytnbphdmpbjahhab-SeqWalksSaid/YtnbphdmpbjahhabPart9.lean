/- Package seq's row: last. -/
import Derived.Test.YtnbphdmpbjahhabSeqRe
namespace Go.Proofs.Ytnbphdmpbjahhab
open Go.RowKit
set_option linter.unusedVariables false
set_option linter.unusedSimpArgs false
set_option maxRecDepth 100000

/-- The last one that p holds of, on the way down; f, if there is none. -/
def lastT (p : Nat → Bool) : Tr → Nat → Nat
  | .nil, f => f
  | .node l i r, f => bif p i then lastT p r i else lastT p l f
set_option maxHeartbeats 8000000 in
theorem last_any {w : World} {b k g cap : Nat} {L : List Th} (h : Things w b k g cap L) (t : Tr) (hok : RowOk (gt L) L.length t) (p : Nat → Bool) (c1 c2 : Value)
    (HP : ∀ (W : World) (x : Nat), Touch (fun _ => False) w W → x ∈ t.flat → Calls Try.prog 49 #[iV (x : Int), c1, c2] W fun e w' => e = .returned (.bool (p x)) ∧ Touch (fun _ => False) W w') :
    Calls Try.prog 48 #[rP b k, .func (.func 49) #[] #[c1, c2]] w fun e w' => e = .returned (iV (lastT p t 0 : Int)) ∧ Touch (fun _ => False) w w' := by
  have h0 := hok.n0
  have HTop : Hid (Calls Try.prog 47 #[rP b k] w fun e w' => e = .returned (iV (t.root : Int)) ∧ w' = w) := by
    have := top_any h h0
    rw [← gt_of h0, hok.head] at this
    exact this
  have HK : Hid (∀ W, Touch (fun _ => False) w W → Things W b k g cap L) := fun W t => h.keep t id id
  have HPx : Hid (∀ (W : World) (x : Nat), Touch (fun _ => False) w W → x ∈ t.flat → Calls Try.prog 49 #[iV (x : Int), c1, c2] W fun e w' => e = .returned (.bool (p x)) ∧ Touch (fun _ => False) W w') := HP
  have HR : Hid (Rep (gt L) 0 t ∧ t.Fits L.length) := ⟨hok.rep, fun x hx => by have := (hok.lab x).1 hx; exact ⟨by omega, by omega⟩⟩
  obtain ⟨i, hi⟩ : ∃ i, Hid (i = t.root) := ⟨_, Eq.refl _⟩
  obtain ⟨res, hres⟩ : ∃ r, Hid (r = lastT p t 0) := ⟨_, Eq.refl _⟩
  rw [← hi.out] at HTop
  rw [← hres.out]
  clear h hok h0 HP
  go_enter Try.func48, Try.ntmps48
  go_wp2_with fail
  refine HTop.out.mono ?_
  rintro e w' ⟨rfl, hw'⟩
  rw [hw']
  clear hw' HTop
  go_wp2_with fail
  go_loopg [5, 6] t.size (fun gk s5 s6 wx => ∃ (f x q : Nat) (u : Tr), s5 = iV (f : Int) ∧ s6 = iV (x : Int) ∧ Hid (Touch (fun _ => False) w wx) ∧ Hid (u.size = gk ∧ x = u.root ∧ Rep (gt L) q u ∧ u.Fits L.length ∧ res = lastT p u f ∧ ∀ y ∈ u.flat, y ∈ t.flat))
  case atStart => exact ⟨0, i, 0, t, rfl, rfl, Touch.refl _ _, rfl, hi.out, HR.out.1, HR.out.2, hres.out, fun y hy => hy⟩
  case round =>
    obtain ⟨f, x, q, u, rfl, rfl, HT, HU⟩ := hrel
    obtain ⟨X0, hX0⟩ : ∃ X, X = wr := ⟨_, rfl⟩
    subst hX0
    obtain ⟨hs, hx, hRu, hFu, hr, hsub⟩ := HU.out
    cases u with
    | nil =>
      have hx0 : x = 0 := hx
      have h1 : res = f := hr
      subst hx0 h1
      clear HU hs hRu hFu hr hx hsub
      go_wp2_with fail
      go_ret
      exact ⟨rfl, HT.out⟩
    | node l y r =>
      have hxy : x = y := hx
      subst hxy
      obtain ⟨hl, hy, hrr⟩ := hFu.node
      have HC : Hid (∀ W, Touch (fun _ => False) w W → Calls Try.prog 49 #[iV (x : Int), c1, c2] W fun e w' => e = .returned (.bool (p x)) ∧ Touch (fun _ => False) W w') := fun W t => HPx.out W x t (hsub x (by simp [Tr.flat]))
      have HCl : Hid (∀ W, Touch (fun _ => False) w W → W.cell? ⟨b, k, none⟩ = some (.slice (some ⟨g, 0, none⟩) L.length cap) ∧ W.cell? ⟨g, x * 5 + 1, none⟩ = some (iV (l.root : Int)) ∧ W.cell? ⟨g, x * 5 + 2, none⟩ = some (iV (r.root : Int))) := fun W t => by
        have t1 := (HK.out W t).th x hy.1
        rw [← gt_of hy.1] at t1
        have q1 := t1.c1
        have q2 := t1.c2
        rw [hRu.2.1] at q1
        rw [hRu.2.2.1] at q2
        exact ⟨(HK.out W t).cell, q1, q2⟩
      have lx : (x : Int) < (L.length : Int) := by omega
      have lx0 : (0 : Int) ≤ (x : Int) := by omega
      have xx : ((x : Int) != 0) = true := by simp [hy.2]
      have HV : Hid (res = (bif p x then lastT p r x else lastT p l f) ∧ l.size < gk ∧ r.size < gk ∧ (Rep (gt L) x l ∧ l.Fits L.length ∧ ∀ z ∈ l.flat, z ∈ t.flat) ∧ Rep (gt L) x r ∧ r.Fits L.length ∧ ∀ z ∈ r.flat, z ∈ t.flat) := by
        refine ⟨hr, ?_, ?_, ⟨hRu.2.2.2.2.1, hl, fun z hz => hsub z (by simp [Tr.flat, hz])⟩, hRu.2.2.2.2.2, hrr, fun z hz => hsub z (by simp [Tr.flat, hz])⟩ <;> (rw [← hs]; simp only [Tr.size]; omega)
      clear HU hs hRu hFu hr hx hsub hl hy hrr
      go_wp2_with fail
      refine (HC.out _ HT.out).mono ?_
      rintro e X1 ⟨rfl, t1⟩
      have HT1 : Hid (Touch (fun _ => False) w X1) := HT.out.trans t1
      clear t1 HT HC
      obtain ⟨kc, ka, kb⟩ := HCl.out X1 HT1.out
      generalize p x = px at *
      cases px
      · obtain ⟨m, hm⟩ : ∃ m, m = l.size := ⟨_, rfl⟩
        have hmg : m < gk := by rw [hm]; exact HV.out.2.1
        have HM : Hid (l.size = m) := hm.symm
        clear hm
        go_wp2_with fail
        go_roundg m
        case measure => omega
        case rel => exact ⟨f, _, x, l, rfl, rfl, HT1.out, HM.out, rfl, HV.out.2.2.2.1.1, HV.out.2.2.2.1.2.1, HV.out.1, HV.out.2.2.2.1.2.2⟩
      · obtain ⟨m, hm⟩ : ∃ m, m = r.size := ⟨_, rfl⟩
        have hmg : m < gk := by rw [hm]; exact HV.out.2.2.1
        have HM : Hid (r.size = m) := hm.symm
        clear hm
        go_upto_region 5 with fail
        go_quiet (fail)
        have HT2 : Hid (Touch (fun _ => False) w (X1.drewN nq)) := ⟨HT1.out.os, HT1.out.tape, HT1.out.output, HT1.out.size, HT1.out.block⟩
        clear kc ka kb
        generalize X1.drewN nq = X2 at *
        go_wp2_with fail
        go_roundg m
        case measure => omega
        case rel => exact ⟨x, _, x, r, rfl, rfl, HT2.out, HM.out, rfl, HV.out.2.2.2.2.1, HV.out.2.2.2.2.2.1, HV.out.1, HV.out.2.2.2.2.2.2⟩
end Go.Proofs.Ytnbphdmpbjahhab

/- Package seq's row: newRow. -/
namespace Go.Proofs.Ytnbphdmpbjahhab
open Go.RowKit
set_option linter.unusedVariables false
set_option linter.unusedSimpArgs false
set_option maxRecDepth 100000

theorem heap_two (w : World) (a b : Obj) : ((w.alloc a).alloc b).heap[w.heap.size]? = some a ∧ ((w.alloc a).alloc b).heap[w.heap.size + 1]? = some b := by
  constructor
  · rw [Below.heap_alloc _ _ _ (by simp)]; exact heap_alloc_new _ _
  · have := heap_alloc_new (w.alloc a) b
    simpa using this
set_option maxHeartbeats 2000000 in
theorem newRow_any (w : World) : Calls Try.prog 18 #[] w fun e w' => ∃ g, e = .returned (.agg #[.slice (some ⟨g, 0, none⟩) 1 1]) ∧ w.heap.size ≤ g ∧ w'.heap[g]? = some (.cells #[iV 0, iV 0, iV 0, iV 0, iV 0] 82 (0, 0)) ∧ Touch (fun _ => False) w w' := by
  have hbz : ∀ (W : World), (Instr.buildSlice 52 1 #[(0, .agg #[iV 0, iV 0, iV 0, iV 0, iV 0])]).run Try.prog W = .ok (.slice (some ⟨W.heap.size, 0, none⟩) 1 1) (W.alloc zeroTO) := fun W => by kernel_rfl
  go_enter Try.func18, Try.ntmps18
  go_wp2_with fail
  have hw2 := heap_two w (.cells #[.slice (some ⟨w.heap.size + 1, 0, none⟩) 1 1] 54) zeroTO
  refine bodyPost_ret (v := .agg #[.slice (some ⟨w.heap.size + 1, 0, none⟩) 1 1]) (by simp [results, Try.results18, go_sem]) rfl ?_
  exact ⟨_, rfl, by omega, hw2.2, ((Touch.refl _ _).alloc _).alloc _⟩
end Go.Proofs.Ytnbphdmpbjahhab

/- Rows as lists of things with lengths: what stands where (no Go in it). -/
namespace Go.Proofs.Ytnbphdmpbjahhab
set_option linter.unusedVariables false
set_option linter.unusedSimpArgs false

def sumF (len : Nat → Int) (l : List Nat) : Int := (l.map len).sum
theorem sumF_nil (len : Nat → Int) : sumF len [] = 0 := rfl
theorem sumF_cons (len : Nat → Int) (i : Nat) (l : List Nat) : sumF len (i :: l) = len i + sumF len l := rfl
theorem sumF_append (len : Nat → Int) (a b : List Nat) : sumF len (a ++ b) = sumF len a + sumF len b := by simp [sumF, List.sum_append]
theorem sumF_nn {len : Nat → Int} (h : ∀ x, 0 ≤ len x) : ∀ l : List Nat, 0 ≤ sumF len l
  | [] => Int.le_refl _
  | i :: l => by
    have := sumF_nn h l
    have := h i
    rw [sumF_cons]
    omega
theorem sumF_tree (A : Nat → Th) (t : Tr) : t.sum A = sumF (fun x => (A x).long) t.flat := Tr.sum_flat
/-- The thing over a place, and how much of it is ahead. -/
def atF (len : Nat → Int) : List Nat → Int → Nat × Int
  | [], _ => (0, 0)
  | i :: r, p => if p < 0 then (0, 0) else if p < len i then (i, p) else atF len r (p - len i)
theorem atF_neg {len : Nat → Int} {l : List Nat} {p : Int} (h : p < 0) : atF len l p = (0, 0) := by
  cases l with
  | nil => rfl
  | cons i r => unfold atF; rw [if_pos h]
theorem atF_append {len : Nat → Int} (hl : ∀ x, 0 ≤ len x) : ∀ (a b : List Nat) (p : Int), 0 ≤ p → atF len (a ++ b) p = if p < sumF len a then atF len a p else atF len b (p - sumF len a)
  | [], b, p, hp => by rw [sumF_nil, if_neg (by omega), List.nil_append, Int.sub_zero]
  | i :: a, b, p, hp => by
    have hi := hl i
    have hs := sumF_nn hl a
    show (if p < 0 then (0, 0) else if p < len i then (i, p) else atF len (a ++ b) (p - len i)) = _
    rw [sumF_cons, if_neg (by omega)]
    by_cases h : p < len i
    · rw [if_pos h, if_pos (by omega)]
      show _ = if p < 0 then (0, 0) else if p < len i then (i, p) else _
      rw [if_neg (by omega), if_pos h]
    · rw [if_neg h, atF_append hl a b (p - len i) (by omega)]
      by_cases h2 : p - len i < sumF len a
      · rw [if_pos h2, if_pos (by omega)]
        show _ = if p < 0 then (0, 0) else if p < len i then (i, p) else atF len a (p - len i)
        rw [if_neg (by omega), if_neg h]
      · rw [if_neg h2, if_neg (by omega), show p - len i - sumF len a = p - (len i + sumF len a) from by omega]
theorem atT_flat {A : Nat → Th} (hl : ∀ x, 0 ≤ (A x).long) : ∀ (t : Tr) (p : Int), atT A t p = atF (fun x => (A x).long) t.flat p
  | .nil, p => rfl
  | .node l i r, p => by
    have hs := Tr.sum_nn hl l
    rw [atT_node]
    by_cases hp : p < 0
    · rw [if_pos (by omega), atT_flat hl l p, atF_neg hp, atF_neg hp]
    · show _ = atF _ (l.flat ++ i :: r.flat) p
      rw [atF_append hl _ _ p (by omega), ← sumF_tree]
      by_cases h : p < l.sum A
      · rw [if_pos (by omega), if_pos h, atT_flat hl l p]
      · rw [if_neg (by omega), if_neg h]
        show _ = if p - l.sum A < 0 then (0, 0) else if p - l.sum A < (A i).long then (i, p - l.sum A) else atF _ r.flat (p - l.sum A - (A i).long)
        rw [if_neg (show ¬ p - l.sum A < 0 from by omega), atT_flat hl r]
/-- The last one that p holds of, one that holds of all ahead of such a thing. -/
def lastF (p : Nat → Bool) (l : List Nat) : Nat := (l.takeWhile p).getLastD 0
theorem getLastD_mid : ∀ (l a : List Nat) (i f : Nat), (l ++ i :: a).getLastD f = a.getLastD i
  | [], a, i, f => List.getLastD_cons ..
  | x :: l, a, i, f => by rw [List.cons_append, List.getLastD_cons]; exact getLastD_mid l a i x
theorem lastT_flat {p : Nat → Bool} : ∀ (t : Tr) (f : Nat) (a b : List Nat), t.flat = a ++ b → (∀ x ∈ a, p x = true) → (∀ x ∈ b, p x = false) → lastT p t f = a.getLastD f
  | .nil, f, a, b, h, _, _ => by
    have : a = [] := (List.append_eq_nil_iff.1 h.symm).1
    rw [this]; rfl
  | .node l i r, f, a, b, h, ha, hb => by
    have h' : l.flat ++ i :: r.flat = a ++ b := h
    show (bif p i then lastT p r i else lastT p l f) = _
    cases hp : p i with
    | true =>
      rcases List.append_eq_append_iff.1 h' with ⟨a', e1, e2⟩ | ⟨a', e1, e2⟩
      · cases a' with
        | nil =>
          have : i ∈ b := by
            have e : i :: r.flat = b := by simpa using e2
            rw [← e]; simp
          exact absurd (hb i this) (by rw [hp]; simp)
        | cons y a2 =>
          have e3 : i = y ∧ r.flat = a2 ++ b := by simpa using e2
          obtain ⟨rfl, e4⟩ := e3
          rw [cond_true, lastT_flat r i a2 b e4 (fun x hx => ha x (by rw [e1]; simp [hx])) hb, e1]
          exact (getLastD_mid _ _ _ _).symm
      · have : i ∈ b := by rw [e2]; simp
        exact absurd (hb i this) (by rw [hp]; simp)
    | false =>
      rcases List.append_eq_append_iff.1 h' with ⟨a', e1, e2⟩ | ⟨a', e1, e2⟩
      · cases a' with
        | nil =>
          have e : a = l.flat := by simpa using e1
          rw [cond_false, lastT_flat l f a [] (by rw [e]; simp) ha (fun x hx => by cases hx)]
        | cons y a2 =>
          have e3 : i = y ∧ r.flat = a2 ++ b := by simpa using e2
          have : i ∈ a := by rw [e1, e3.1]; simp
          exact absurd (ha i this) (by rw [hp]; simp)
      · rw [cond_false, lastT_flat l f a a' e1 ha (fun x hx => hb x (by rw [e2]; simp [hx]))]
theorem lastT_lastF {p : Nat → Bool} (t : Tr) (h : ∀ x ∈ t.flat.dropWhile p, p x = false) : lastT p t 0 = lastF p t.flat :=
  lastT_flat t 0 (t.flat.takeWhile p) (t.flat.dropWhile p) (List.takeWhile_append_dropWhile).symm (fun x hx => by
    have := List.all_takeWhile (p := p) (l := t.flat)
    exact List.all_eq_true.1 this x hx) h
/-- How long all ahead of one are. -/
def aheadF (len : Nat → Int) (l : List Nat) (i : Nat) : Int := sumF len (l.takeWhile fun x => decide (x ≠ i))
theorem takeWhile_ne {a b : List Nat} {i : Nat} (h : i ∉ a) : (a ++ i :: b).takeWhile (fun x => decide (x ≠ i)) = a := by
  induction a with
  | nil => simp
  | cons x a ih =>
    have hx : x ≠ i := fun e => h (by simp [e])
    simp only [List.cons_append, List.takeWhile_cons, hx, ne_eq, not_false_eq_true, decide_true, if_true]
    rw [ih (fun h' => h (by simp [h']))]
theorem aheadF_of {len : Nat → Int} {a b : List Nat} {i : Nat} (h : i ∉ a) : aheadF len (a ++ i :: b) i = sumF len a := by
  unfold aheadF; rw [takeWhile_ne h]
/-- One more, right behind i (0: ahead of all). -/
def insB (i n : Nat) : List Nat → List Nat
  | [] => if i = 0 then [n] else []
  | x :: l => if i = 0 then n :: x :: l else if x = i then x :: n :: l else x :: insB i n l
theorem insB_zero (n : Nat) (l : List Nat) : insB 0 n l = n :: l := by cases l <;> rfl
theorem insB_of {i n : Nat} (hi : i ≠ 0) : ∀ {a b : List Nat}, i ∉ a → insB i n (a ++ i :: b) = a ++ i :: n :: b
  | [], b, _ => by show (if i = 0 then _ else if i = i then _ else _) = _; rw [if_neg hi, if_pos rfl]; rfl
  | x :: a, b, h => by
    have hx : x ≠ i := fun e => h (by simp [e])
    show (if i = 0 then _ else if x = i then _ else x :: insB i n (a ++ i :: b)) = _
    rw [if_neg hi, if_neg hx, insB_of hi (fun h' => h (by simp [h']))]
    rfl
/-- The one behind i (0: the first); 0: there is none. -/
def nextF (l : List Nat) (i : Nat) : Nat := if i = 0 then l.headD 0 else ((l.dropWhile fun x => decide (x ≠ i)).tail).headD 0
theorem nextF_of {a b : List Nat} {i : Nat} (hi : i ≠ 0) (h : i ∉ a) : nextF (a ++ i :: b) i = b.headD 0 := by
  unfold nextF
  rw [if_neg hi]
  have : (a ++ i :: b).dropWhile (fun x => decide (x ≠ i)) = i :: b := by
    induction a with
    | nil => simp
    | cons x a ih =>
      have hx : x ≠ i := fun e => h (by simp [e])
      simp only [List.cons_append, List.dropWhile_cons, hx, ne_eq, not_false_eq_true, decide_true, if_true]
      exact ih (fun h' => h (by simp [h']))
  rw [this]; rfl
/-- Seen from a thing of the row. -/
theorem RowOk.seen {A : Nat → Th} {n : Nat} {t : Tr} (h : RowOk A n t) {i : Nat} (hi : i < n) (h0 : i ≠ 0) : ∃ c l r, t = plug c (.node l i r) ∧ i ∉ cl c ++ l.flat ∧ i ∉ r.flat ++ cr c ∧ t.flat = (cl c ++ l.flat) ++ i :: (r.flat ++ cr c) := by
  obtain ⟨c, l, r, e⟩ := focus ((h.lab i).2 ⟨by omega, hi⟩) []
  rw [List.append_nil] at e
  have e' : t = plug c (.node l i r) := e
  have hf : t.flat = (cl c ++ l.flat) ++ i :: (r.flat ++ cr c) := by rw [e', flat_plug]; simp [Tr.flat]
  have hn := h.nod
  rw [hf] at hn
  have hnd := List.nodup_append.1 hn
  exact ⟨c, l, r, e', fun h' => hnd.2.2 i h' i (by simp) rfl, (List.nodup_cons.1 hnd.2.1).1, hf⟩
theorem sumC_cl (A : Nat → Th) : ∀ c : List Fr, sumC A c = sumF (fun x => (A x).long) (cl c)
  | [] => rfl
  | .L u r :: c => sumC_cl A c
  | .R l u :: c => by
    have := sumC_cl A c
    show sumC A c + (l.sum A + (A u).long) = sumF _ (cl c ++ (l.flat ++ [u]))
    rw [sumF_append, sumF_append, sumF_tree, this, sumF_cons, sumF_nil]
    omega
end Go.Proofs.Ytnbphdmpbjahhab
