/- Package seq's row as a list of things with lengths: what its calls answer, and leave. -/
import Derived.Test.YtnbphdmpbjahhabPart9
import Derived.Test.YtnbphdmpbjahhabPart1
import Derived.Shelf.Abstract
import Derived.Shelf.RegionOpen
import Derived.OwnWalkIn
import Derived.TacticsInMore
import Derived.LoopNIn
import Derived.LoopIn
namespace Go.Proofs.Ytnbphdmpbjahhab
open Go.RowKit
set_option linter.unusedVariables false
set_option linter.unusedSimpArgs false
set_option maxRecDepth 100000

/-- A row in memory: its things as they stand, how long each is; n: how many, with none. -/
def RowAt (w : World) (b k g cap n : Nat) (F : List Nat) (len : Nat → Int) : Prop :=
  ∃ L t, Things w b k g cap L ∧ L.length = n ∧ RowOk (gt L) n t ∧ t.flat = F ∧ ∀ x, (gt L x).long = len x
theorem RowAt.keep {S : Nat → Prop} {w w' : World} {b k g cap n : Nat} {F : List Nat} {len : Nat → Int} (h : RowAt w b k g cap n F len) (t : Touch S w w') (hb : ¬ S b) (hg : ¬ S g) : RowAt w' b k g cap n F len := by
  obtain ⟨L, tr, h1, h2⟩ := h
  exact ⟨L, tr, h1.keep t hb hg, h2⟩
theorem RowAt.cellb {w : World} {b k g cap n : Nat} {F : List Nat} {len : Nat → Int} (h : RowAt w b k g cap n F len) : w.cell? ⟨b, k, none⟩ = some (.slice (some ⟨g, 0, none⟩) n cap) := by
  obtain ⟨L, tr, h1, rfl, _⟩ := h
  exact h1.cell
theorem RowAt.lt {w : World} {b k g cap n : Nat} {F : List Nat} {len : Nat → Int} (h : RowAt w b k g cap n F len) : g < w.heap.size := by
  obtain ⟨L, tr, h1, _⟩ := h
  exact h1.lt
theorem RowAt.ne {w : World} {b k g cap n : Nat} {F : List Nat} {len : Nat → Int} (h : RowAt w b k g cap n F len) : b ≠ g := by
  obtain ⟨L, tr, h1, _⟩ := h
  exact h1.ne
/-- What is so of a row's list. -/
structure RowF (n : Nat) (F : List Nat) (len : Nat → Int) : Prop where
  n0 : 0 < n
  nod : F.Nodup
  lab : ∀ x, x ∈ F ↔ 1 ≤ x ∧ x < n
  long : ∀ x, 0 ≤ len x
  zero : len 0 = 0
  out : ∀ x, n ≤ x → len x = 0
theorem RowAt.form {w : World} {b k g cap n : Nat} {F : List Nat} {len : Nat → Int} (h : RowAt w b k g cap n F len) : RowF n F len := by
  obtain ⟨L, tr, h1, rfl, h3, rfl, h5⟩ := h
  refine ⟨h3.n0, h3.nod, h3.lab, fun x => by rw [← h5]; exact h3.long x, by rw [← h5, h3.head], fun x hx => by rw [← h5, h3.out x hx]⟩
theorem len_eq {L : List Th} {len : Nat → Int} (h : ∀ x, (gt L x).long = len x) : (fun x => (gt L x).long) = len := funext h
theorem r_lengthOf {w : World} {b k g cap n : Nat} {F : List Nat} {len : Nat → Int} (h : RowAt w b k g cap n F len) (i : Nat) (hi : i < n) :
    Calls Try.prog 29 #[rP b k, iV (i : Int)] w fun e w' => e = .returned (iV (len i)) ∧ w' = w := by
  obtain ⟨L, tr, h1, rfl, h3, rfl, h5⟩ := h
  have := lengthOf_any h1 i hi
  rw [← gt_of hi, h5] at this
  exact this
theorem r_length {w : World} {b k g cap n : Nat} {F : List Nat} {len : Nat → Int} (h : RowAt w b k g cap n F len) :
    Calls Try.prog 27 #[rP b k] w fun e w' => e = .returned (iV (sumF len F)) ∧ Touch (fun _ => False) w w' := by
  obtain ⟨L, tr, h1, rfl, h3, rfl, h5⟩ := h
  have hF : tr.Fits L.length := fun x hx => by have := (h3.lab x).1 hx; exact ⟨by omega, by omega⟩
  have hd : L[0]'h3.n0 = gt L 0 := (gt_of h3.n0).symm
  have hr : (L[0]'h3.n0).d1 < L.length := by rw [hd, h3.head]; exact hF.root h3.n0
  have := length_any h1 h3.n0 hr
  have e : L[(L[0]'h3.n0).d1].whole = sumF len tr.flat := by
    rw [← gt_of hr, hd, h3.head]
    show (gt L tr.root).whole = _
    rw [h3.rep.whole (by rw [h3.head]), sumF_tree, len_eq h5]
  rw [e] at this
  exact this
theorem r_at {w : World} {b k g cap n : Nat} {F : List Nat} {len : Nat → Int} (h : RowAt w b k g cap n F len) (hs : sumF len F ≤ 1152921504606846976) (p : Int) (hp : -4611686018427387904 ≤ p ∧ p ≤ 4611686018427387904) :
    Calls Try.prog 46 #[rP b k, iV p] w fun e w' => e = .returned (.tuple #[iV ((atF len F p).1 : Int), iV (atF len F p).2]) ∧ Touch (fun _ => False) w w' := by
  obtain ⟨L, tr, h1, rfl, h3, rfl, h5⟩ := h
  have hF : tr.Fits L.length := fun x hx => by have := (h3.lab x).1 hx; exact ⟨by omega, by omega⟩
  have := at_any h1 tr h3.rep hF h3.n0 (by rw [h3.head]) (by rw [h3.head]) (h3.tame (by rw [sumF_tree, len_eq h5]; exact hs)) p hp
  rw [atT_flat h3.long, len_eq h5] at this
  exact this
theorem r_ahead {w : World} {b k g cap n : Nat} {F : List Nat} {len : Nat → Int} (h : RowAt w b k g cap n F len) (hs : sumF len F ≤ 1152921504606846976) (i : Nat) (hi : i < n) (hi0 : i ≠ 0) :
    Calls Try.prog 30 #[rP b k, iV (i : Int)] w fun e w' => e = .returned (iV (aheadF len F i)) ∧ Touch (fun _ => False) w w' := by
  obtain ⟨L, tr, h1, rfl, h3, rfl, h5⟩ := h
  have hF : tr.Fits L.length := fun x hx => by have := (h3.lab x).1 hx; exact ⟨by omega, by omega⟩
  obtain ⟨c, l, r, e, n1, n2, hf⟩ := h3.seen hi hi0
  have hrep := h3.rep
  rw [e] at hrep
  obtain ⟨hC, q1, q2, q3, q4, q5, q6⟩ := (rep_plug (gt L) c (.node l i r)).1 hrep
  have hw0 : (gt L 0).whole = 0 := by rw [h3.head]
  have hle : (gt L l.root).whole = sumF len l.flat := by rw [q5.whole hw0, sumF_tree, len_eq h5]
  have hN := h3.nod
  rw [hf] at hN
  have hnd := List.nodup_append.1 hN
  have hnd1 := List.nodup_append.1 hnd.1
  have hnd2 := List.nodup_append.1 (List.nodup_cons.1 hnd.2.1).2
  have s1 := sumF_nn (len := len) (fun x => by rw [← h5]; exact h3.long x) l.flat
  have s2 := sumF_nn (len := len) (fun x => by rw [← h5]; exact h3.long x) (cl c)
  have hap : aheadF len tr.flat i = sumF len (cl c) + sumF len l.flat := by rw [hf, aheadF_of n1, sumF_append]
  have hle2 : aheadF len tr.flat i ≤ sumF len tr.flat := by
    have s3 := sumF_nn (len := len) (fun x => by rw [← h5]; exact h3.long x) (i :: (r.flat ++ cr c))
    rw [hap, hf, sumF_append, sumF_append]
    omega
  have hdr : (gt L i).d0 < L.length := by
    rw [q2]
    cases l with
    | nil => exact h3.n0
    | node x j y =>
      have : j ∈ tr.flat := by rw [hf]; simp [Tr.flat]
      exact ((h3.lab j).1 this).2
  have hfit : FitC c L.length := fun x hx => by
    have : x ∈ tr.flat := by
      rw [hf]
      rcases List.mem_append.1 hx with h' | h' <;> simp [h']
    have := (h3.lab x).1 this
    exact ⟨by omega, by omega⟩
  refine ahead_any h1 i c (aheadF len tr.flat i) hi hi0 hdr ?_ h3.n0 ⟨by rw [h3.head], by rw [h3.head], hw0⟩ (h3.tame (by rw [sumF_tree, len_eq h5]; exact hs)) (by omega)
  rw [q2, hle]
  refine ⟨s1, by omega, .inr ⟨hi0, hi, q1, ⟨_, hC⟩, hfit, ?_, ?_, ?_, ?_⟩⟩
  · exact List.nodup_append.2 ⟨hnd1.1, hnd2.2.1, fun x hx y hy => hnd.2.2 x (by simp [hx]) y (by simp [hy])⟩
  · intro h'
    rcases List.mem_append.1 h' with h' | h'
    · exact n1 (by simp [h'])
    · exact n2 (by simp [h'])
  · rw [h3.head, e, root_plug]; rfl
  · rw [sumC_cl, len_eq h5, hap]; omega
theorem r_last {w : World} {b k g cap n : Nat} {F : List Nat} {len : Nat → Int} (h : RowAt w b k g cap n F len) (p : Nat → Bool) (hm : ∀ x ∈ F.dropWhile p, p x = false) (c1 c2 : Value)
    (HP : ∀ (W : World) (x : Nat), Touch (fun _ => False) w W → x ∈ F → Calls Try.prog 49 #[iV (x : Int), c1, c2] W fun e w' => e = .returned (.bool (p x)) ∧ Touch (fun _ => False) W w') :
    Calls Try.prog 48 #[rP b k, .func (.func 49) #[] #[c1, c2]] w fun e w' => e = .returned (iV (lastF p F : Int)) ∧ Touch (fun _ => False) w w' := by
  obtain ⟨L, tr, h1, rfl, h3, rfl, h5⟩ := h
  have := last_any h1 tr h3 p c1 c2 HP
  rw [lastT_lastF tr hm] at this
  exact this
theorem r_next {w : World} {b k g cap n : Nat} {F : List Nat} {len : Nat → Int} (h : RowAt w b k g cap n F len) (i : Nat) (hi : i < n) :
    Calls Try.prog 72 #[rP b k, iV (i : Int)] w fun e w' => e = .returned (iV (nextF F i : Int)) ∧ Touch (fun _ => False) w w' := by
  obtain ⟨L, tr, h1, rfl, h3, rfl, h5⟩ := h
  by_cases hi0 : i = 0
  · subst hi0
    have := next_any h1 0 tr [] 0 hi h3.n0 (by rw [h3.head]) (by rw [h3.head]) h3.rep (fun x hx => by have := (h3.lab x).1 hx; exact ⟨by omega, by omega⟩) (.inl ⟨rfl, rfl, rfl⟩)
    have e : (if tr.root = 0 then 0 else tr.first) = nextF tr.flat 0 := by
      unfold nextF
      rw [if_pos rfl]
      cases tr with
      | nil => rfl
      | node l i r =>
        have : i ∈ (Tr.node l i r).flat := by simp [Tr.flat]
        have := (h3.lab i).1 this
        rw [if_neg (by show ¬ i = 0; omega)]
        obtain ⟨q, hq⟩ := first_head (t := .node l i r) (by simp)
        rw [hq]; rfl
    rw [e] at this
    exact this
  · obtain ⟨c, l, r, e, n1, n2, hf⟩ := h3.seen hi hi0
    have hrep := h3.rep
    rw [e] at hrep
    obtain ⟨hC, q1, q2, q3, q4, q5, q6⟩ := (rep_plug (gt L) c (.node l i r)).1 hrep
    have hN := h3.nod
    rw [hf] at hN
    have hnd := List.nodup_append.1 hN
    have hnd1 := List.nodup_append.1 hnd.1
    have hnd2 := List.nodup_append.1 (List.nodup_cons.1 hnd.2.1).2
    have hfit : FitC c L.length := fun x hx => by
      have : x ∈ tr.flat := by
        rw [hf]
        rcases List.mem_append.1 hx with h' | h' <;> simp [h']
      have := (h3.lab x).1 this
      exact ⟨by omega, by omega⟩
    have := next_any h1 i r c (nextC c) hi h3.n0 (by rw [h3.head]) q3 q6 (fun x hx => by have := (h3.lab x).1 (by rw [hf]; simp [hx]); exact ⟨by omega, by omega⟩) (.inr ⟨hi0, hi, q1, ⟨_, hC⟩, hfit, fun h' => by
      rcases List.mem_append.1 h' with h' | h'
      · exact n1 (by simp [h'])
      · exact n2 (by simp [h']), List.nodup_append.2 ⟨hnd1.1, hnd2.2.1, fun x hx y hy => hnd.2.2 x (by simp [hx]) y (by simp [hy])⟩, by rw [h3.head, e, root_plug]; rfl, rfl⟩)
    have e2 : (if r.root = 0 then nextC c else r.first) = nextF tr.flat i := by
      rw [hf, nextF_of hi0 n1]
      cases r with
      | nil => rw [if_pos (show Tr.nil.root = 0 from rfl), nextC_head]; rfl
      | node x j y =>
        have : j ∈ tr.flat := by rw [hf]; simp [Tr.flat]
        have := (h3.lab j).1 this
        rw [if_neg (by show ¬ j = 0; omega)]
        obtain ⟨q, hq⟩ := first_head (t := .node x j y) (by simp)
        rw [hq]; rfl
    rw [e2] at this
    exact this
theorem r_add {w : World} {b k g cap n : Nat} {F : List Nat} {len : Nat → Int} (h : RowAt w b k g cap n F len) (hfz : ∀ W : World, W.heap[b]? = w.heap[b]? → W.frozen? ⟨b, k, none⟩ = false) (i : Nat) (hi : i < n) (lg : Int) (hl : 0 ≤ lg) (hs : sumF len F + lg ≤ 1152921504606846976) (hn : n ≤ 1073741824) :
    Calls Try.prog 69 #[rP b k, iV (i : Int), iV lg] w fun e w' => e = .returned (.tuple #[]) ∧ (∃ g' cap', (g' = g ∨ w.heap.size ≤ g') ∧ RowAt w' b k g' cap' (n + 1) (insB i n F) (fun x => len x + (if x = n then lg else 0))) ∧ AddF w w' b k g := by
  obtain ⟨L, tr, h1, rfl, h3, rfl, h5⟩ := h
  refine (add_any h1 hfz tr h3 i hi lg hl (by rw [sumF_tree, len_eq h5]; exact hs) hn).mono ?_
  rintro e w' ⟨rfl, ⟨g', cap', L', t', P, Q, hg, q1, q2, q3, q4, q5, q6, q7⟩, q8⟩
  refine ⟨rfl, ⟨g', cap', hg, L', t', q1, q2, q3, ?_, fun x => by rw [q7, h5]⟩, q8⟩
  rw [q5, q4]
  have hN := h3.nod
  rw [q4] at hN
  rcases q6 with ⟨rfl, rfl⟩ | ⟨hi0, P', rfl⟩
  · rw [List.nil_append, List.nil_append, insB_zero]
  · rw [List.append_assoc, List.singleton_append, List.append_assoc, List.singleton_append]
    refine (insB_of hi0 fun h' => ?_).symm
    exact (List.nodup_append.1 (List.nodup_append.1 hN).1).2.2 i h' i (by simp) rfl
theorem r_grow {w : World} {b k g cap n : Nat} {F : List Nat} {len : Nat → Int} (h : RowAt w b k g cap n F len) (hs : sumF len F ≤ 1152921504606846976) (i : Nat) (hi : i < n) (hi0 : i ≠ 0) (m : Int) (hm : 0 ≤ len i + m) (hb : -1152921504606846976 ≤ m ∧ m ≤ 1152921504606846976) :
    Calls Try.prog 60 #[rP b k, iV (i : Int), iV m] w fun e w' => e = .returned (.tuple #[]) ∧ RowAt w' b k g cap n F (fun x => len x + (if x = i then m else 0)) ∧ Touch (· = g) w w' := by
  obtain ⟨L, tr, h1, rfl, h3, rfl, h5⟩ := h
  obtain ⟨c, l, r, e, n1, n2, hf⟩ := h3.seen hi hi0
  have hrep := h3.rep
  rw [e] at hrep
  obtain ⟨hC, q1, q2, q3, q4, q5, q6⟩ := (rep_plug (gt L) c (.node l i r)).1 hrep
  have hN := h3.nod
  rw [hf] at hN
  have hnd := List.nodup_append.1 hN
  have hnd1 := List.nodup_append.1 hnd.1
  have hnd2 := List.nodup_append.1 (List.nodup_cons.1 hnd.2.1).2
  have hcc : (cl c ++ cr c).Nodup := List.nodup_append.2 ⟨hnd1.1, hnd2.2.1, fun x hx y hy => hnd.2.2 x (by simp [hx]) y (by simp [hy])⟩
  have hic : i ∉ cl c ++ cr c := fun h' => by
    rcases List.mem_append.1 h' with h' | h'
    · exact n1 (by simp [h'])
    · exact n2 (by simp [h'])
  have hT := h3.tame (by rw [sumF_tree, len_eq h5]; exact hs)
  have hup : ∀ x ∈ i :: ups c, x ∈ tr.flat := fun x hx => by
    rcases List.mem_cons.1 hx with rfl | hx
    · rw [hf]; simp
    · rw [hf]
      rcases List.mem_append.1 (ups_sub hx) with h' | h' <;> simp [h']
  have hgo : ∀ x, x ≠ i → x ∉ i :: ups c → growA (gt L) i (i :: ups c) m x = gt L x := fun x h1 h2 => grow_other h1 h2
  refine (grow_any h1 i (ups c) m hi hi0 (fun x hx => by have := (h3.lab x).1 (hup x hx); exact ⟨by omega, by omega⟩) (List.nodup_cons.2 ⟨fun h' => hic (ups_sub h'), ups_nodup hcc⟩) (hC.way q1) (fun x hx => ?_) ?_).mono ?_
  · have := hT x
    rw [IntKind.wrap_i64]
    omega
  · have := hT i
    rw [IntKind.wrap_i64]
    omega
  rintro e' w' ⟨rfl, ⟨L', k1, k2, k3⟩, k4⟩
  have hrep2 : Rep (gt L') 0 tr := by rw [k3, e]; exact grow_rep hrep (by rw [← e]; exact h3.nod)
  refine ⟨rfl, ⟨L', tr, k1, k2, ⟨h3.n0, ?_, hrep2, h3.nod, h3.lab, fun x => ?_, fun x hx => ?_⟩, rfl, fun x => ?_⟩, k4⟩
  · rw [k3, grow_other (by omega) (fun h' => by have := (h3.lab 0).1 (hup 0 h'); omega), h3.head]
  · rw [k3, grow_long]
    have := h3.long x
    by_cases hx : x = i
    · rw [if_pos hx, hx, h5]; exact hm
    · rw [if_neg hx]; omega
  · rw [k3, grow_other (by omega) (fun h' => by have := (h3.lab x).1 (hup x h'); omega)]
    exact h3.out x hx
  · rw [k3, grow_long, h5]
end Go.Proofs.Ytnbphdmpbjahhab

/- Package seq: the things of a row one after another: row.all's iterator. -/
namespace Go.Proofs.Ytnbphdmpbjahhab
open Go.RowKit Go.Shelf
set_option linter.unusedVariables false
set_option linter.unusedSimpArgs false
set_option maxRecDepth 100000
attribute [local go_sem] Oper.semAt_some

/-- The thing that stands at a place of a row, 0 behind the last. -/
def nthF (F : List Nat) (j : Nat) : Nat := (F.drop j).headD 0
theorem nextF_zero (F : List Nat) : nextF F 0 = nthF F 0 := by unfold nextF nthF; simp
theorem nthF_get {F : List Nat} {j : Nat} (h : j < F.length) : nthF F j = F[j] := by
  unfold nthF
  rw [List.drop_eq_getElem_cons h]; rfl
theorem nthF_end {F : List Nat} {j : Nat} (h : F.length ≤ j) : nthF F j = 0 := by
  unfold nthF
  rw [List.drop_eq_nil_of_le h]; rfl
theorem nextF_nth {F : List Nat} (hn : F.Nodup) (hp : ∀ x ∈ F, 1 ≤ x) {j : Nat} (h : j < F.length) : nextF F (nthF F j) = nthF F (j + 1) := by
  have e : F = F.take j ++ F[j] :: F.drop (j + 1) := by rw [← List.drop_eq_getElem_cons h, List.take_append_drop]
  rw [nthF_get h]
  have h1 := hp F[j] (List.getElem_mem h)
  have hn' := hn
  rw [e] at hn'
  have h2 := (List.nodup_append.1 hn').2.2
  have h3 : F[j] ∉ F.take j := fun q => h2 _ q _ List.mem_cons_self rfl
  have := nextF_of (a := F.take j) (b := F.drop (j + 1)) (i := F[j]) (by omega) h3
  rw [← e] at this
  exact this
theorem idx_nth {F : List Nat} (hn : F.Nodup) (hp : ∀ x ∈ F, 1 ≤ x) {j : Nat} (h : j ≤ F.length) : F.idxOf (nthF F j) = j := by
  by_cases hj : j < F.length
  · rw [nthF_get hj]; exact hn.idxOf_getElem j hj
  · have e : j = F.length := by omega
    subst e
    rw [nthF_end (Nat.le_refl _)]
    exact List.idxOf_eq_length fun q => by have := hp 0 q; omega
theorem take_pre {α : Type} {F : List α} {j : Nat} (h : j < F.length) : F.take j ++ [F[j]] <+: F := by
  rw [← List.take_succ_eq_append_getElem h]
  exact List.take_prefix _ _

set_option maxHeartbeats 4000000 in
theorem rowAll_stops {w : World} {b k g cap n : Nat} {F : List Nat} {len : Nat → Int} (h : RowAt w b k g cap n F len) (B : Nat) (hB : w.heap[B]? = some (.cells #[rP b k] 89 (0, 0))) :
    SeqP Try.prog 71 #[.pointer (some ⟨B, 0, none⟩)] (fun i : Nat => #[iV (i : Int)]) (fun x => x = B ∨ x = b ∨ x = g) F w := fun l n' J Jx W Φ hW fJ fJx hR hY h0 => by
  have hF := h.form
  have HB : Hid (∀ wr, Touch Φ W wr → wr.cell? ⟨B, 0, none⟩ = some (rP b k)) := fun wr t => by
    have e := (hW.block _ (lt_of_heap hB) fun q => q (.inl rfl)).trans hB
    rw [cell_of_block ((t.block _ (lt_of_heap e) (hR B (.inl rfl))).trans e)]; rfl
  have HRow : Hid (∀ wr, Touch Φ W wr → RowAt wr b k g cap n F len) := fun wr t => (h.keep hW (fun q => q (.inr (.inl rfl))) (fun q => q (.inr (.inr rfl)))).keep t (hR b (.inr (.inl rfl))) (hR g (.inr (.inr rfl)))
  have HN : Hid (∀ wr, Touch Φ W wr → ∀ j, j < F.length → Calls Try.prog 72 #[rP b k, iV (nthF F j : Int)] wr fun e w' => e = .returned (iV (nthF F (j + 1) : Int)) ∧ Touch (fun _ => False) wr w') := fun wr t j hj => by
    have h1 := nextF_nth hF.nod (fun x hx => ((hF.lab x).1 hx).1) hj
    rw [← h1]
    exact r_next (HRow.out wr t) _ (by rw [nthF_get hj]; exact ((hF.lab _).1 (List.getElem_mem hj)).2)
  have C0 := r_next (HRow.out W (Touch.refl _ _)) 0 hF.n0
  rw [nextF_zero] at C0
  have HL : Hid (∀ j, j < F.length → nthF F j = F[j]! ∧ nthF F j ≠ 0 ∧ nthF F j < n) := fun j hj => by
    have := (hF.lab _).1 (List.getElem_mem hj)
    rw [nthF_get hj]
    exact ⟨by rw [getElem!_pos F j hj], by omega, this.2⟩
  have HY : Hid _ := hY
  have HFJ : Hid (Foot W.heap.size J) := fJ
  have HRP : Hid (∀ Ψ : Nat → Prop, Swells Φ Ψ W.heap.size → ∀ x, (x = B ∨ x = b ∨ x = g) → ¬ Ψ x) := fun Ψ hs x hx hp => by
    rcases hs x hp with q | q
    · exact hR x hx q
    · have h1 : x < W.heap.size := by
        rcases hx with rfl | rfl | rfl
        · exact Nat.lt_of_lt_of_le (lt_of_heap hB) hW.size
        · exact Nat.lt_of_lt_of_le (World.block_lt_of_cell? _ _ h.cellb) hW.size
        · exact Nat.lt_of_lt_of_le h.lt hW.size
      omega
  have c0 := HB.out W (Touch.refl _ _)
  have HP : Hid (∀ j, (hj : j < F.length) → F.take j ++ [nthF F j] <+: F ∧ F.take (j + 1) = F.take j ++ [nthF F j]) := fun j hj => by
    rw [nthF_get hj]
    exact ⟨take_pre hj, List.take_succ_eq_append_getElem hj⟩
  have HI : Hid (∀ j, j ≤ F.length → F.idxOf (nthF F j) = j) := fun j hj => idx_nth hF.nod (fun x hx => ((hF.lab x).1 hx).1) hj
  have HE : Hid (nthF F F.length = 0) := nthF_end (Nat.le_refl _)
  have HT : Hid (F.take F.length = F) := List.take_length
  clear hW hR hY hB h hF fJ fJx
  refine callsIn_of_wp Try.func71 rfl trivial ?_ rfl
  simp only [Try.ntmps71, List.size_toArray, List.length_cons, List.length_nil, Nat.reduceAdd, Nat.reduceSub, Array.replicate_succ, Array.replicate_zero, List.push_toArray, List.append_toArray, List.nil_append, List.cons_append]
  gi_wp2_with fail
  refine ⟨trivial, wideN, (callsIn_wide.2 C0).mono ?_⟩
  rintro e W1 ⟨rfl, t1⟩
  have HT1 : Hid (Touch Φ W W1) := t1.mono fun _ _ q => q.elim
  have HJ1 : Hid (J [] Φ W1) := HFJ.out.keep _ _ _ _ h0 (t1.mono fun _ _ q => q.elim)
  clear t1 h0 C0 c0
  gi_wp2
  gi_loopw [3] (fun i wr => ∃ (j : Nat) (Ψ : Nat → Prop), i = iV (nthF F j : Int) ∧ j ≤ F.length ∧ J (F.take j) Ψ wr ∧ Touch Φ W wr ∧ Swells Φ Ψ W.heap.size) (fun i _ => F.length - F.idxOf (intOf i).toNat)
  case atStart => exact ⟨0, Φ, rfl, Nat.zero_le _, HJ1.out, HT1.out, Swells.refl _ _⟩
  case round =>
    obtain ⟨j, Ψ, rfl, hj, hJr, hTr, hSr⟩ := hrel
    by_cases hlt : j < F.length
    · obtain ⟨-, hne, -⟩ := HL.out j hlt
      obtain ⟨hp1, hp2⟩ := HP.out j hlt
      have HP1 : Hid (F.take j ++ [nthF F j] <+: F) := hp1
      have HP2 : Hid (F.take (j + 1) = F.take j ++ [nthF F j]) := hp2
      have hsz := hTr.size
      have HI1 := HI.out j hj
      have HI2 := HI.out (j + 1) hlt
      have HM : Hid (F.length - F.idxOf (nthF F (j + 1)) < F.length - F.idxOf (nthF F j)) := by rw [Hid, HI1, HI2]; omega
      have HNj : Hid (∀ wr, Touch Φ W wr → Calls Try.prog 72 #[rP b k, iV (nthF F j : Int)] wr fun e w' => e = .returned (iV (nthF F (j + 1) : Int)) ∧ Touch (fun _ => False) wr w') := fun wr t => HN.out wr t j hlt
      generalize hyE : nthF F (j + 1) = y at *
      have HyE : Hid (nthF F (j + 1) = y) := hyE
      clear hyE
      generalize nthF F j = x at *
      have hx : ¬ ((x : Int) = 0) := by omega
      obtain ⟨fn, tmps, assign, body, hy, hRd⟩ := HY.out (F.take j) x Ψ wr hJr (HRP.out Ψ hSr) HP1.out 0
      have HTr : Hid (Touch Φ W wr) := hTr
      have HSr : Hid (Swells Φ Ψ W.heap.size) := hSr
      clear hJr hTr hSr hp1 hp2 HI1 HI2 hne
      gi_wp2
      refine ⟨wideN, (round_wide hRd).mono ?_⟩
      rintro e W3 ⟨t3, Ψ3, s3, (⟨rfl, hJ3⟩ | ⟨rfl, hJ3⟩)⟩
      · have HT3 : Hid (Touch Φ W W3) := HTr.out.swell t3 HSr.out
        have HS3 : Hid (Swells Φ Ψ3 W.heap.size) := HSr.out.trans s3 hsz
        have HJ3 : Hid (J (F.take j ++ [x]) Ψ3 W3) := hJ3
        have c3 := HB.out W3 HT3.out
        have C3 := HNj.out W3 HT3.out
        clear hy hRd t3 s3 hJ3
        gi_wp2
        refine ⟨trivial, wideN, (callsIn_wide.2 C3).mono ?_⟩
        rintro e W4 ⟨rfl, t4⟩
        have HT4 : Hid (Touch (fun _ => False) W3 W4) := t4
        clear t4 C3 c3
        gi_wp2
        go_roundw
        case rel => exact ⟨j + 1, Ψ3, by rw [HyE.out], by omega, by rw [HP2.out]; exact HFJ.out.keep _ _ _ _ HJ3.out (HT4.out.mono fun _ _ q => q.elim), HT3.out.trans (HT4.out.mono fun _ _ q => q.elim), HS3.out⟩
        case measure => simp only [intOf, Int.toNat_natCast]; exact HM.out
      · have HT3 : Hid (Touch Φ W W3) := HTr.out.swell t3 HSr.out
        have HS3 : Hid (Swells Φ Ψ3 W.heap.size) := HSr.out.trans s3 hsz
        gi_wp2
        refine bodyPost_ret (results_none rfl _ _ _) rfl ?_
        exact ⟨⟨_, rfl⟩, HT3.out, Ψ3, HS3.out, .inr ⟨_, HP1.out, hJ3⟩⟩
    · have hjl : j = F.length := by omega
      subst hjl
      rw [HE.out] at *
      gi_wp2
      go_end0
      exact ⟨⟨_, rfl⟩, hTr, Ψ, hSr, .inl (by rw [← HT.out]; exact hJr)⟩
end Go.Proofs.Ytnbphdmpbjahhab
