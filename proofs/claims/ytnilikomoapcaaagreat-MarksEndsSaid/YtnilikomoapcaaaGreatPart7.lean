/- Package seq's row: last. -/
import Derived.Test.YtnilikomoapcaaaGreatSeqRe
namespace Go.Proofs.YtnilikomoapcaaaGreat
open Go.RowKit
set_option linter.unusedVariables false
set_option linter.unusedSimpArgs false
set_option maxRecDepth 100000

/-- The last one that p holds of, on the way down; f, if there is none. -/
def lastT (p : Nat → Bool) : Tr → Nat → Nat
  | .nil, f => f
  | .node l i r, f => bif p i then lastT p r i else lastT p l f
set_option maxHeartbeats 8000000 in
theorem last_any {w : World} {b k g cap : Nat} {L : List Th} (h : Things w b k g cap L) (t : Tr) (hok : RowOk (gt L) L.length t) (p : Nat → Bool) (c1 c2 : Value)
    (HP : ∀ (W : World) (x : Nat), Touch (fun _ => False) w W → x ∈ t.flat → Calls Tryz.prog 72 #[iV (x : Int), c1, c2] W fun e w' => e = .returned (.bool (p x)) ∧ Touch (fun _ => False) W w') :
    Calls Tryz.prog 71 #[rP b k, .func (.func 72) #[] #[c1, c2]] w fun e w' => e = .returned (iV (lastT p t 0 : Int)) ∧ Touch (fun _ => False) w w' := by
  have h0 := hok.n0
  have HTop : Hid (Calls Tryz.prog 69 #[rP b k] w fun e w' => e = .returned (iV (t.root : Int)) ∧ w' = w) := by
    have := top_any h h0
    rw [← gt_of h0, hok.head] at this
    exact this
  have HK : Hid (∀ W, Touch (fun _ => False) w W → Things W b k g cap L) := fun W t => h.keep t id id
  have HPx : Hid (∀ (W : World) (x : Nat), Touch (fun _ => False) w W → x ∈ t.flat → Calls Tryz.prog 72 #[iV (x : Int), c1, c2] W fun e w' => e = .returned (.bool (p x)) ∧ Touch (fun _ => False) W w') := HP
  have HR : Hid (Rep (gt L) 0 t ∧ t.Fits L.length) := ⟨hok.rep, fun x hx => by have := (hok.lab x).1 hx; exact ⟨by omega, by omega⟩⟩
  obtain ⟨i, hi⟩ : ∃ i, Hid (i = t.root) := ⟨_, Eq.refl _⟩
  obtain ⟨res, hres⟩ : ∃ r, Hid (r = lastT p t 0) := ⟨_, Eq.refl _⟩
  rw [← hi.out] at HTop
  rw [← hres.out]
  clear h hok h0 HP
  go_enter Tryz.func71, Tryz.ntmps71
  go_wp2_with fail
  refine HTop.out.mono ?_
  rintro e w' ⟨rfl, hw'⟩
  rw [hw']
  clear hw' HTop
  go_wp2_with fail
  go_loopg [5, 6] t.size (fun gk s5 s6 wx => ∃ (f x q : Nat) (u : Tr), s5 = iV (f : Int) ∧ s6 = iV (x : Int) ∧ Hid (Touch (fun _ => False) w wx) ∧ Hid (u.size = gk ∧ x = u.root ∧ Rep (gt L) q u ∧ u.Fits L.length ∧ res = lastT p u f ∧ ∀ y ∈ u.flat, y ∈ t.flat))
  case atStart => exact ⟨0, i, 0, t, rfl, rfl, Touch.refl _ _, rfl, hi.out, HR.out.1, HR.out.2, hres.out, fun y hy => hy⟩
  case round =>
    obtain ⟨f, x, q, u, rfl, rfl, HT, HU⟩ := hrel
    obtain ⟨X0, hX0⟩ : ∃ X, X = wr := ⟨_, rfl⟩
    subst hX0
    obtain ⟨hs, hx, hRu, hFu, hr, hsub⟩ := HU.out
    cases u with
    | nil =>
      have hx0 : x = 0 := hx
      have h1 : res = f := hr
      subst hx0 h1
      clear HU hs hRu hFu hr hx hsub
      go_wp2_with fail
      go_ret
      exact ⟨rfl, HT.out⟩
    | node l y r =>
      have hxy : x = y := hx
      subst hxy
      obtain ⟨hl, hy, hrr⟩ := hFu.node
      have HC : Hid (∀ W, Touch (fun _ => False) w W → Calls Tryz.prog 72 #[iV (x : Int), c1, c2] W fun e w' => e = .returned (.bool (p x)) ∧ Touch (fun _ => False) W w') := fun W t => HPx.out W x t (hsub x (by simp [Tr.flat]))
      have HCl : Hid (∀ W, Touch (fun _ => False) w W → W.cell? ⟨b, k, none⟩ = some (.slice (some ⟨g, 0, none⟩) L.length cap) ∧ W.cell? ⟨g, x * 5 + 1, none⟩ = some (iV (l.root : Int)) ∧ W.cell? ⟨g, x * 5 + 2, none⟩ = some (iV (r.root : Int))) := fun W t => by
        have t1 := (HK.out W t).th x hy.1
        rw [← gt_of hy.1] at t1
        have q1 := t1.c1
        have q2 := t1.c2
        rw [hRu.2.1] at q1
        rw [hRu.2.2.1] at q2
        exact ⟨(HK.out W t).cell, q1, q2⟩
      have lx : (x : Int) < (L.length : Int) := by omega
      have lx0 : (0 : Int) ≤ (x : Int) := by omega
      have xx : ((x : Int) != 0) = true := by simp [hy.2]
      have HV : Hid (res = (bif p x then lastT p r x else lastT p l f) ∧ l.size < gk ∧ r.size < gk ∧ (Rep (gt L) x l ∧ l.Fits L.length ∧ ∀ z ∈ l.flat, z ∈ t.flat) ∧ Rep (gt L) x r ∧ r.Fits L.length ∧ ∀ z ∈ r.flat, z ∈ t.flat) := by
        refine ⟨hr, ?_, ?_, ⟨hRu.2.2.2.2.1, hl, fun z hz => hsub z (by simp [Tr.flat, hz])⟩, hRu.2.2.2.2.2, hrr, fun z hz => hsub z (by simp [Tr.flat, hz])⟩ <;> (rw [← hs]; simp only [Tr.size]; omega)
      clear HU hs hRu hFu hr hx hsub hl hy hrr
      go_wp2_with fail
      refine (HC.out _ HT.out).mono ?_
      rintro e X1 ⟨rfl, t1⟩
      have HT1 : Hid (Touch (fun _ => False) w X1) := HT.out.trans t1
      clear t1 HT HC
      obtain ⟨kc, ka, kb⟩ := HCl.out X1 HT1.out
      generalize p x = px at *
      cases px
      · obtain ⟨m, hm⟩ : ∃ m, m = l.size := ⟨_, rfl⟩
        have hmg : m < gk := by rw [hm]; exact HV.out.2.1
        have HM : Hid (l.size = m) := hm.symm
        clear hm
        go_wp2_with fail
        go_roundg m
        case measure => omega
        case rel => exact ⟨f, _, x, l, rfl, rfl, HT1.out, HM.out, rfl, HV.out.2.2.2.1.1, HV.out.2.2.2.1.2.1, HV.out.1, HV.out.2.2.2.1.2.2⟩
      · obtain ⟨m, hm⟩ : ∃ m, m = r.size := ⟨_, rfl⟩
        have hmg : m < gk := by rw [hm]; exact HV.out.2.2.1
        have HM : Hid (r.size = m) := hm.symm
        clear hm
        go_upto_region 5 with fail
        go_quiet (fail)
        have HT2 : Hid (Touch (fun _ => False) w (X1.drewN nq)) := ⟨HT1.out.os, HT1.out.tape, HT1.out.output, HT1.out.size, HT1.out.block⟩
        clear kc ka kb
        generalize X1.drewN nq = X2 at *
        go_wp2_with fail
        go_roundg m
        case measure => omega
        case rel => exact ⟨x, _, x, r, rfl, rfl, HT2.out, HM.out, rfl, HV.out.2.2.2.2.1, HV.out.2.2.2.2.2.1, HV.out.1, HV.out.2.2.2.2.2.2⟩
end Go.Proofs.YtnilikomoapcaaaGreat

/- Package seq's row: newRow. -/
namespace Go.Proofs.YtnilikomoapcaaaGreat
open Go.RowKit
set_option linter.unusedVariables false
set_option linter.unusedSimpArgs false
set_option maxRecDepth 100000

theorem heap_two (w : World) (a b : Obj) : ((w.alloc a).alloc b).heap[w.heap.size]? = some a ∧ ((w.alloc a).alloc b).heap[w.heap.size + 1]? = some b := by
  constructor
  · rw [Below.heap_alloc _ _ _ (by simp)]; exact heap_alloc_new _ _
  · have := heap_alloc_new (w.alloc a) b
    simpa using this
set_option maxHeartbeats 2000000 in
theorem newRow_any (w : World) : Calls Tryz.prog 22 #[] w fun e w' => ∃ g, e = .returned (.agg #[.slice (some ⟨g, 0, none⟩) 1 1]) ∧ w.heap.size ≤ g ∧ w'.heap[g]? = some (.cells #[iV 0, iV 0, iV 0, iV 0, iV 0] 111 (0, 0)) ∧ Touch (fun _ => False) w w' := by
  have hbz : ∀ (W : World), (Instr.buildSlice 69 1 #[(0, .agg #[iV 0, iV 0, iV 0, iV 0, iV 0])]).run Tryz.prog W = .ok (.slice (some ⟨W.heap.size, 0, none⟩) 1 1) (W.alloc zeroTO) := fun W => by kernel_rfl
  go_enter Tryz.func22, Tryz.ntmps22
  go_wp2_with fail
  have hw2 := heap_two w (.cells #[.slice (some ⟨w.heap.size + 1, 0, none⟩) 1 1] 71) zeroTO
  refine bodyPost_ret (v := .agg #[.slice (some ⟨w.heap.size + 1, 0, none⟩) 1 1]) (by simp [results, Tryz.results22, go_sem]) rfl ?_
  exact ⟨_, rfl, by omega, hw2.2, ((Touch.refl _ _).alloc _).alloc _⟩
end Go.Proofs.YtnilikomoapcaaaGreat

/- Rows as lists of things with lengths: what stands where (no Go in it). -/
namespace Go.Proofs.YtnilikomoapcaaaGreat
set_option linter.unusedVariables false
set_option linter.unusedSimpArgs false

def sumF (len : Nat → Int) (l : List Nat) : Int := (l.map len).sum
theorem sumF_nil (len : Nat → Int) : sumF len [] = 0 := rfl
theorem sumF_cons (len : Nat → Int) (i : Nat) (l : List Nat) : sumF len (i :: l) = len i + sumF len l := rfl
theorem sumF_append (len : Nat → Int) (a b : List Nat) : sumF len (a ++ b) = sumF len a + sumF len b := by simp [sumF, List.sum_append]
theorem sumF_nn {len : Nat → Int} (h : ∀ x, 0 ≤ len x) : ∀ l : List Nat, 0 ≤ sumF len l
  | [] => Int.le_refl _
  | i :: l => by
    have := sumF_nn h l
    have := h i
    rw [sumF_cons]
    omega
theorem sumF_tree (A : Nat → Th) (t : Tr) : t.sum A = sumF (fun x => (A x).long) t.flat := Tr.sum_flat
/-- The thing over a place, and how much of it is ahead. -/
def atF (len : Nat → Int) : List Nat → Int → Nat × Int
  | [], _ => (0, 0)
  | i :: r, p => if p < 0 then (0, 0) else if p < len i then (i, p) else atF len r (p - len i)
theorem atF_neg {len : Nat → Int} {l : List Nat} {p : Int} (h : p < 0) : atF len l p = (0, 0) := by
  cases l with
  | nil => rfl
  | cons i r => unfold atF; rw [if_pos h]
theorem atF_append {len : Nat → Int} (hl : ∀ x, 0 ≤ len x) : ∀ (a b : List Nat) (p : Int), 0 ≤ p → atF len (a ++ b) p = if p < sumF len a then atF len a p else atF len b (p - sumF len a)
  | [], b, p, hp => by rw [sumF_nil, if_neg (by omega), List.nil_append, Int.sub_zero]
  | i :: a, b, p, hp => by
    have hi := hl i
    have hs := sumF_nn hl a
    show (if p < 0 then (0, 0) else if p < len i then (i, p) else atF len (a ++ b) (p - len i)) = _
    rw [sumF_cons, if_neg (by omega)]
    by_cases h : p < len i
    · rw [if_pos h, if_pos (by omega)]
      show _ = if p < 0 then (0, 0) else if p < len i then (i, p) else _
      rw [if_neg (by omega), if_pos h]
    · rw [if_neg h, atF_append hl a b (p - len i) (by omega)]
      by_cases h2 : p - len i < sumF len a
      · rw [if_pos h2, if_pos (by omega)]
        show _ = if p < 0 then (0, 0) else if p < len i then (i, p) else atF len a (p - len i)
        rw [if_neg (by omega), if_neg h]
      · rw [if_neg h2, if_neg (by omega), show p - len i - sumF len a = p - (len i + sumF len a) from by omega]
theorem atT_flat {A : Nat → Th} (hl : ∀ x, 0 ≤ (A x).long) : ∀ (t : Tr) (p : Int), atT A t p = atF (fun x => (A x).long) t.flat p
  | .nil, p => rfl
  | .node l i r, p => by
    have hs := Tr.sum_nn hl l
    rw [atT_node]
    by_cases hp : p < 0
    · rw [if_pos (by omega), atT_flat hl l p, atF_neg hp, atF_neg hp]
    · show _ = atF _ (l.flat ++ i :: r.flat) p
      rw [atF_append hl _ _ p (by omega), ← sumF_tree]
      by_cases h : p < l.sum A
      · rw [if_pos (by omega), if_pos h, atT_flat hl l p]
      · rw [if_neg (by omega), if_neg h]
        show _ = if p - l.sum A < 0 then (0, 0) else if p - l.sum A < (A i).long then (i, p - l.sum A) else atF _ r.flat (p - l.sum A - (A i).long)
        rw [if_neg (show ¬ p - l.sum A < 0 from by omega), atT_flat hl r]
/-- The last one that p holds of, one that holds of all ahead of such a thing. -/
def lastF (p : Nat → Bool) (l : List Nat) : Nat := (l.takeWhile p).getLastD 0
theorem getLastD_mid : ∀ (l a : List Nat) (i f : Nat), (l ++ i :: a).getLastD f = a.getLastD i
  | [], a, i, f => List.getLastD_cons ..
  | x :: l, a, i, f => by rw [List.cons_append, List.getLastD_cons]; exact getLastD_mid l a i x
theorem lastT_flat {p : Nat → Bool} : ∀ (t : Tr) (f : Nat) (a b : List Nat), t.flat = a ++ b → (∀ x ∈ a, p x = true) → (∀ x ∈ b, p x = false) → lastT p t f = a.getLastD f
  | .nil, f, a, b, h, _, _ => by
    have : a = [] := (List.append_eq_nil_iff.1 h.symm).1
    rw [this]; rfl
  | .node l i r, f, a, b, h, ha, hb => by
    have h' : l.flat ++ i :: r.flat = a ++ b := h
    show (bif p i then lastT p r i else lastT p l f) = _
    cases hp : p i with
    | true =>
      rcases List.append_eq_append_iff.1 h' with ⟨a', e1, e2⟩ | ⟨a', e1, e2⟩
      · cases a' with
        | nil =>
          have : i ∈ b := by
            have e : i :: r.flat = b := by simpa using e2
            rw [← e]; simp
          exact absurd (hb i this) (by rw [hp]; simp)
        | cons y a2 =>
          have e3 : i = y ∧ r.flat = a2 ++ b := by simpa using e2
          obtain ⟨rfl, e4⟩ := e3
          rw [cond_true, lastT_flat r i a2 b e4 (fun x hx => ha x (by rw [e1]; simp [hx])) hb, e1]
          exact (getLastD_mid _ _ _ _).symm
      · have : i ∈ b := by rw [e2]; simp
        exact absurd (hb i this) (by rw [hp]; simp)
    | false =>
      rcases List.append_eq_append_iff.1 h' with ⟨a', e1, e2⟩ | ⟨a', e1, e2⟩
      · cases a' with
        | nil =>
          have e : a = l.flat := by simpa using e1
          rw [cond_false, lastT_flat l f a [] (by rw [e]; simp) ha (fun x hx => by cases hx)]
        | cons y a2 =>
          have e3 : i = y ∧ r.flat = a2 ++ b := by simpa using e2
          have : i ∈ a := by rw [e1, e3.1]; simp
          exact absurd (ha i this) (by rw [hp]; simp)
      · rw [cond_false, lastT_flat l f a a' e1 ha (fun x hx => hb x (by rw [e2]; simp [hx]))]
theorem lastT_lastF {p : Nat → Bool} (t : Tr) (h : ∀ x ∈ t.flat.dropWhile p, p x = false) : lastT p t 0 = lastF p t.flat :=
  lastT_flat t 0 (t.flat.takeWhile p) (t.flat.dropWhile p) (List.takeWhile_append_dropWhile).symm (fun x hx => by
    have := List.all_takeWhile (p := p) (l := t.flat)
    exact List.all_eq_true.1 this x hx) h
/-- How long all ahead of one are. -/
def aheadF (len : Nat → Int) (l : List Nat) (i : Nat) : Int := sumF len (l.takeWhile fun x => decide (x ≠ i))
theorem takeWhile_ne {a b : List Nat} {i : Nat} (h : i ∉ a) : (a ++ i :: b).takeWhile (fun x => decide (x ≠ i)) = a := by
  induction a with
  | nil => simp
  | cons x a ih =>
    have hx : x ≠ i := fun e => h (by simp [e])
    simp only [List.cons_append, List.takeWhile_cons, hx, ne_eq, not_false_eq_true, decide_true, if_true]
    rw [ih (fun h' => h (by simp [h']))]
theorem aheadF_of {len : Nat → Int} {a b : List Nat} {i : Nat} (h : i ∉ a) : aheadF len (a ++ i :: b) i = sumF len a := by
  unfold aheadF; rw [takeWhile_ne h]
/-- One more, right behind i (0: ahead of all). -/
def insB (i n : Nat) : List Nat → List Nat
  | [] => if i = 0 then [n] else []
  | x :: l => if i = 0 then n :: x :: l else if x = i then x :: n :: l else x :: insB i n l
theorem insB_zero (n : Nat) (l : List Nat) : insB 0 n l = n :: l := by cases l <;> rfl
theorem insB_of {i n : Nat} (hi : i ≠ 0) : ∀ {a b : List Nat}, i ∉ a → insB i n (a ++ i :: b) = a ++ i :: n :: b
  | [], b, _ => by show (if i = 0 then _ else if i = i then _ else _) = _; rw [if_neg hi, if_pos rfl]; rfl
  | x :: a, b, h => by
    have hx : x ≠ i := fun e => h (by simp [e])
    show (if i = 0 then _ else if x = i then _ else x :: insB i n (a ++ i :: b)) = _
    rw [if_neg hi, if_neg hx, insB_of hi (fun h' => h (by simp [h']))]
    rfl
/-- The one behind i (0: the first); 0: there is none. -/
def nextF (l : List Nat) (i : Nat) : Nat := if i = 0 then l.headD 0 else ((l.dropWhile fun x => decide (x ≠ i)).tail).headD 0
theorem nextF_of {a b : List Nat} {i : Nat} (hi : i ≠ 0) (h : i ∉ a) : nextF (a ++ i :: b) i = b.headD 0 := by
  unfold nextF
  rw [if_neg hi]
  have : (a ++ i :: b).dropWhile (fun x => decide (x ≠ i)) = i :: b := by
    induction a with
    | nil => simp
    | cons x a ih =>
      have hx : x ≠ i := fun e => h (by simp [e])
      simp only [List.cons_append, List.dropWhile_cons, hx, ne_eq, not_false_eq_true, decide_true, if_true]
      exact ih (fun h' => h (by simp [h']))
  rw [this]; rfl
/-- Seen from a thing of the row. -/
theorem RowOk.seen {A : Nat → Th} {n : Nat} {t : Tr} (h : RowOk A n t) {i : Nat} (hi : i < n) (h0 : i ≠ 0) : ∃ c l r, t = plug c (.node l i r) ∧ i ∉ cl c ++ l.flat ∧ i ∉ r.flat ++ cr c ∧ t.flat = (cl c ++ l.flat) ++ i :: (r.flat ++ cr c) := by
  obtain ⟨c, l, r, e⟩ := focus ((h.lab i).2 ⟨by omega, hi⟩) []
  rw [List.append_nil] at e
  have e' : t = plug c (.node l i r) := e
  have hf : t.flat = (cl c ++ l.flat) ++ i :: (r.flat ++ cr c) := by rw [e', flat_plug]; simp [Tr.flat]
  have hn := h.nod
  rw [hf] at hn
  have hnd := List.nodup_append.1 hn
  exact ⟨c, l, r, e', fun h' => hnd.2.2 i h' i (by simp) rfl, (List.nodup_cons.1 hnd.2.1).1, hf⟩
theorem sumC_cl (A : Nat → Th) : ∀ c : List Fr, sumC A c = sumF (fun x => (A x).long) (cl c)
  | [] => rfl
  | .L u r :: c => sumC_cl A c
  | .R l u :: c => by
    have := sumC_cl A c
    show sumC A c + (l.sum A + (A u).long) = sumF _ (cl c ++ (l.flat ++ [u]))
    rw [sumF_append, sumF_append, sumF_tree, this, sumF_cons, sumF_nil]
    omega
end Go.Proofs.YtnilikomoapcaaaGreat

/- Package seq's row as a list of things with lengths: what its calls answer, and leave. -/
namespace Go.Proofs.YtnilikomoapcaaaGreat
open Go.RowKit
set_option linter.unusedVariables false
set_option linter.unusedSimpArgs false
set_option maxRecDepth 100000

/-- A row in memory: its things as they stand, how long each is; n: how many, with none. -/
def RowAt (w : World) (b k g cap n : Nat) (F : List Nat) (len : Nat → Int) : Prop :=
  ∃ L t, Things w b k g cap L ∧ L.length = n ∧ RowOk (gt L) n t ∧ t.flat = F ∧ ∀ x, (gt L x).long = len x
theorem RowAt.keep {S : Nat → Prop} {w w' : World} {b k g cap n : Nat} {F : List Nat} {len : Nat → Int} (h : RowAt w b k g cap n F len) (t : Touch S w w') (hb : ¬ S b) (hg : ¬ S g) : RowAt w' b k g cap n F len := by
  obtain ⟨L, tr, h1, h2⟩ := h
  exact ⟨L, tr, h1.keep t hb hg, h2⟩
theorem RowAt.cellb {w : World} {b k g cap n : Nat} {F : List Nat} {len : Nat → Int} (h : RowAt w b k g cap n F len) : w.cell? ⟨b, k, none⟩ = some (.slice (some ⟨g, 0, none⟩) n cap) := by
  obtain ⟨L, tr, h1, rfl, _⟩ := h
  exact h1.cell
theorem RowAt.lt {w : World} {b k g cap n : Nat} {F : List Nat} {len : Nat → Int} (h : RowAt w b k g cap n F len) : g < w.heap.size := by
  obtain ⟨L, tr, h1, _⟩ := h
  exact h1.lt
theorem RowAt.ne {w : World} {b k g cap n : Nat} {F : List Nat} {len : Nat → Int} (h : RowAt w b k g cap n F len) : b ≠ g := by
  obtain ⟨L, tr, h1, _⟩ := h
  exact h1.ne
/-- What is so of a row's list. -/
structure RowF (n : Nat) (F : List Nat) (len : Nat → Int) : Prop where
  n0 : 0 < n
  nod : F.Nodup
  lab : ∀ x, x ∈ F ↔ 1 ≤ x ∧ x < n
  long : ∀ x, 0 ≤ len x
  zero : len 0 = 0
  out : ∀ x, n ≤ x → len x = 0
theorem RowAt.form {w : World} {b k g cap n : Nat} {F : List Nat} {len : Nat → Int} (h : RowAt w b k g cap n F len) : RowF n F len := by
  obtain ⟨L, tr, h1, rfl, h3, rfl, h5⟩ := h
  refine ⟨h3.n0, h3.nod, h3.lab, fun x => by rw [← h5]; exact h3.long x, by rw [← h5, h3.head], fun x hx => by rw [← h5, h3.out x hx]⟩
theorem len_eq {L : List Th} {len : Nat → Int} (h : ∀ x, (gt L x).long = len x) : (fun x => (gt L x).long) = len := funext h
theorem r_lengthOf {w : World} {b k g cap n : Nat} {F : List Nat} {len : Nat → Int} (h : RowAt w b k g cap n F len) (i : Nat) (hi : i < n) :
    Calls Tryz.prog 39 #[rP b k, iV (i : Int)] w fun e w' => e = .returned (iV (len i)) ∧ w' = w := by
  obtain ⟨L, tr, h1, rfl, h3, rfl, h5⟩ := h
  have := lengthOf_any h1 i hi
  rw [← gt_of hi, h5] at this
  exact this
theorem r_length {w : World} {b k g cap n : Nat} {F : List Nat} {len : Nat → Int} (h : RowAt w b k g cap n F len) :
    Calls Tryz.prog 35 #[rP b k] w fun e w' => e = .returned (iV (sumF len F)) ∧ Touch (fun _ => False) w w' := by
  obtain ⟨L, tr, h1, rfl, h3, rfl, h5⟩ := h
  have hF : tr.Fits L.length := fun x hx => by have := (h3.lab x).1 hx; exact ⟨by omega, by omega⟩
  have hd : L[0]'h3.n0 = gt L 0 := (gt_of h3.n0).symm
  have hr : (L[0]'h3.n0).d1 < L.length := by rw [hd, h3.head]; exact hF.root h3.n0
  have := length_any h1 h3.n0 hr
  have e : L[(L[0]'h3.n0).d1].whole = sumF len tr.flat := by
    rw [← gt_of hr, hd, h3.head]
    show (gt L tr.root).whole = _
    rw [h3.rep.whole (by rw [h3.head]), sumF_tree, len_eq h5]
  rw [e] at this
  exact this
theorem r_at {w : World} {b k g cap n : Nat} {F : List Nat} {len : Nat → Int} (h : RowAt w b k g cap n F len) (hs : sumF len F ≤ 1152921504606846976) (p : Int) (hp : -4611686018427387904 ≤ p ∧ p ≤ 4611686018427387904) :
    Calls Tryz.prog 70 #[rP b k, iV p] w fun e w' => e = .returned (.tuple #[iV ((atF len F p).1 : Int), iV (atF len F p).2]) ∧ Touch (fun _ => False) w w' := by
  obtain ⟨L, tr, h1, rfl, h3, rfl, h5⟩ := h
  have hF : tr.Fits L.length := fun x hx => by have := (h3.lab x).1 hx; exact ⟨by omega, by omega⟩
  have := at_any h1 tr h3.rep hF h3.n0 (by rw [h3.head]) (by rw [h3.head]) (h3.tame (by rw [sumF_tree, len_eq h5]; exact hs)) p hp
  rw [atT_flat h3.long, len_eq h5] at this
  exact this
theorem r_ahead {w : World} {b k g cap n : Nat} {F : List Nat} {len : Nat → Int} (h : RowAt w b k g cap n F len) (hs : sumF len F ≤ 1152921504606846976) (i : Nat) (hi : i < n) (hi0 : i ≠ 0) :
    Calls Tryz.prog 40 #[rP b k, iV (i : Int)] w fun e w' => e = .returned (iV (aheadF len F i)) ∧ Touch (fun _ => False) w w' := by
  obtain ⟨L, tr, h1, rfl, h3, rfl, h5⟩ := h
  have hF : tr.Fits L.length := fun x hx => by have := (h3.lab x).1 hx; exact ⟨by omega, by omega⟩
  obtain ⟨c, l, r, e, n1, n2, hf⟩ := h3.seen hi hi0
  have hrep := h3.rep
  rw [e] at hrep
  obtain ⟨hC, q1, q2, q3, q4, q5, q6⟩ := (rep_plug (gt L) c (.node l i r)).1 hrep
  have hw0 : (gt L 0).whole = 0 := by rw [h3.head]
  have hle : (gt L l.root).whole = sumF len l.flat := by rw [q5.whole hw0, sumF_tree, len_eq h5]
  have hN := h3.nod
  rw [hf] at hN
  have hnd := List.nodup_append.1 hN
  have hnd1 := List.nodup_append.1 hnd.1
  have hnd2 := List.nodup_append.1 (List.nodup_cons.1 hnd.2.1).2
  have s1 := sumF_nn (len := len) (fun x => by rw [← h5]; exact h3.long x) l.flat
  have s2 := sumF_nn (len := len) (fun x => by rw [← h5]; exact h3.long x) (cl c)
  have hap : aheadF len tr.flat i = sumF len (cl c) + sumF len l.flat := by rw [hf, aheadF_of n1, sumF_append]
  have hle2 : aheadF len tr.flat i ≤ sumF len tr.flat := by
    have s3 := sumF_nn (len := len) (fun x => by rw [← h5]; exact h3.long x) (i :: (r.flat ++ cr c))
    rw [hap, hf, sumF_append, sumF_append]
    omega
  have hdr : (gt L i).d0 < L.length := by
    rw [q2]
    cases l with
    | nil => exact h3.n0
    | node x j y =>
      have : j ∈ tr.flat := by rw [hf]; simp [Tr.flat]
      exact ((h3.lab j).1 this).2
  have hfit : FitC c L.length := fun x hx => by
    have : x ∈ tr.flat := by
      rw [hf]
      rcases List.mem_append.1 hx with h' | h' <;> simp [h']
    have := (h3.lab x).1 this
    exact ⟨by omega, by omega⟩
  refine ahead_any h1 i c (aheadF len tr.flat i) hi hi0 hdr ?_ h3.n0 ⟨by rw [h3.head], by rw [h3.head], hw0⟩ (h3.tame (by rw [sumF_tree, len_eq h5]; exact hs)) (by omega)
  rw [q2, hle]
  refine ⟨s1, by omega, .inr ⟨hi0, hi, q1, ⟨_, hC⟩, hfit, ?_, ?_, ?_, ?_⟩⟩
  · exact List.nodup_append.2 ⟨hnd1.1, hnd2.2.1, fun x hx y hy => hnd.2.2 x (by simp [hx]) y (by simp [hy])⟩
  · intro h'
    rcases List.mem_append.1 h' with h' | h'
    · exact n1 (by simp [h'])
    · exact n2 (by simp [h'])
  · rw [h3.head, e, root_plug]; rfl
  · rw [sumC_cl, len_eq h5, hap]; omega
theorem r_last {w : World} {b k g cap n : Nat} {F : List Nat} {len : Nat → Int} (h : RowAt w b k g cap n F len) (p : Nat → Bool) (hm : ∀ x ∈ F.dropWhile p, p x = false) (c1 c2 : Value)
    (HP : ∀ (W : World) (x : Nat), Touch (fun _ => False) w W → x ∈ F → Calls Tryz.prog 72 #[iV (x : Int), c1, c2] W fun e w' => e = .returned (.bool (p x)) ∧ Touch (fun _ => False) W w') :
    Calls Tryz.prog 71 #[rP b k, .func (.func 72) #[] #[c1, c2]] w fun e w' => e = .returned (iV (lastF p F : Int)) ∧ Touch (fun _ => False) w w' := by
  obtain ⟨L, tr, h1, rfl, h3, rfl, h5⟩ := h
  have := last_any h1 tr h3 p c1 c2 HP
  rw [lastT_lastF tr hm] at this
  exact this
theorem r_add {w : World} {b k g cap n : Nat} {F : List Nat} {len : Nat → Int} (h : RowAt w b k g cap n F len) (hfz : ∀ W : World, W.heap[b]? = w.heap[b]? → W.frozen? ⟨b, k, none⟩ = false) (i : Nat) (hi : i < n) (lg : Int) (hl : 0 ≤ lg) (hs : sumF len F + lg ≤ 1152921504606846976) (hn : n ≤ 1073741824) :
    Calls Tryz.prog 78 #[rP b k, iV (i : Int), iV lg] w fun e w' => e = .returned (.tuple #[]) ∧ (∃ g' cap', (g' = g ∨ w.heap.size ≤ g') ∧ RowAt w' b k g' cap' (n + 1) (insB i n F) (fun x => len x + (if x = n then lg else 0))) ∧ AddF w w' b k g := by
  obtain ⟨L, tr, h1, rfl, h3, rfl, h5⟩ := h
  refine (add_any h1 hfz tr h3 i hi lg hl (by rw [sumF_tree, len_eq h5]; exact hs) hn).mono ?_
  rintro e w' ⟨rfl, ⟨g', cap', L', t', P, Q, hg, q1, q2, q3, q4, q5, q6, q7⟩, q8⟩
  refine ⟨rfl, ⟨g', cap', hg, L', t', q1, q2, q3, ?_, fun x => by rw [q7, h5]⟩, q8⟩
  rw [q5, q4]
  have hN := h3.nod
  rw [q4] at hN
  rcases q6 with ⟨rfl, rfl⟩ | ⟨hi0, P', rfl⟩
  · rw [List.nil_append, List.nil_append, insB_zero]
  · rw [List.append_assoc, List.singleton_append, List.append_assoc, List.singleton_append]
    refine (insB_of hi0 fun h' => ?_).symm
    exact (List.nodup_append.1 (List.nodup_append.1 hN).1).2.2 i h' i (by simp) rfl
theorem r_grow {w : World} {b k g cap n : Nat} {F : List Nat} {len : Nat → Int} (h : RowAt w b k g cap n F len) (hs : sumF len F ≤ 1152921504606846976) (i : Nat) (hi : i < n) (hi0 : i ≠ 0) (m : Int) (hm : 0 ≤ len i + m) (hb : -1152921504606846976 ≤ m ∧ m ≤ 1152921504606846976) :
    Calls Tryz.prog 53 #[rP b k, iV (i : Int), iV m] w fun e w' => e = .returned (.tuple #[]) ∧ RowAt w' b k g cap n F (fun x => len x + (if x = i then m else 0)) ∧ Touch (· = g) w w' := by
  obtain ⟨L, tr, h1, rfl, h3, rfl, h5⟩ := h
  obtain ⟨c, l, r, e, n1, n2, hf⟩ := h3.seen hi hi0
  have hrep := h3.rep
  rw [e] at hrep
  obtain ⟨hC, q1, q2, q3, q4, q5, q6⟩ := (rep_plug (gt L) c (.node l i r)).1 hrep
  have hN := h3.nod
  rw [hf] at hN
  have hnd := List.nodup_append.1 hN
  have hnd1 := List.nodup_append.1 hnd.1
  have hnd2 := List.nodup_append.1 (List.nodup_cons.1 hnd.2.1).2
  have hcc : (cl c ++ cr c).Nodup := List.nodup_append.2 ⟨hnd1.1, hnd2.2.1, fun x hx y hy => hnd.2.2 x (by simp [hx]) y (by simp [hy])⟩
  have hic : i ∉ cl c ++ cr c := fun h' => by
    rcases List.mem_append.1 h' with h' | h'
    · exact n1 (by simp [h'])
    · exact n2 (by simp [h'])
  have hT := h3.tame (by rw [sumF_tree, len_eq h5]; exact hs)
  have hup : ∀ x ∈ i :: ups c, x ∈ tr.flat := fun x hx => by
    rcases List.mem_cons.1 hx with rfl | hx
    · rw [hf]; simp
    · rw [hf]
      rcases List.mem_append.1 (ups_sub hx) with h' | h' <;> simp [h']
  have hgo : ∀ x, x ≠ i → x ∉ i :: ups c → growA (gt L) i (i :: ups c) m x = gt L x := fun x h1 h2 => grow_other h1 h2
  refine (grow_any h1 i (ups c) m hi hi0 (fun x hx => by have := (h3.lab x).1 (hup x hx); exact ⟨by omega, by omega⟩) (List.nodup_cons.2 ⟨fun h' => hic (ups_sub h'), ups_nodup hcc⟩) (hC.way q1) (fun x hx => ?_) ?_).mono ?_
  · have := hT x
    rw [IntKind.wrap_i64]
    omega
  · have := hT i
    rw [IntKind.wrap_i64]
    omega
  rintro e' w' ⟨rfl, ⟨L', k1, k2, k3⟩, k4⟩
  have hrep2 : Rep (gt L') 0 tr := by rw [k3, e]; exact grow_rep hrep (by rw [← e]; exact h3.nod)
  refine ⟨rfl, ⟨L', tr, k1, k2, ⟨h3.n0, ?_, hrep2, h3.nod, h3.lab, fun x => ?_, fun x hx => ?_⟩, rfl, fun x => ?_⟩, k4⟩
  · rw [k3, grow_other (by omega) (fun h' => by have := (h3.lab 0).1 (hup 0 h'); omega), h3.head]
  · rw [k3, grow_long]
    have := h3.long x
    by_cases hx : x = i
    · rw [if_pos hx, hx, h5]; exact hm
    · rw [if_neg hx]; omega
  · rw [k3, grow_other (by omega) (fun h' => by have := (h3.lab x).1 (hup x h'); omega)]
    exact h3.out x hx
  · rw [k3, grow_long, h5]
end Go.Proofs.YtnilikomoapcaaaGreat
