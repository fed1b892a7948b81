/- Package seq's row as a list of things with lengths: what its calls answer, and leave. -/
import Derived.Test.YtcolbgbmnmkogaaPart9
namespace Go.Proofs.Ytcolbgbmnmkogaa
open Go.RowKit
set_option linter.unusedVariables false
set_option linter.unusedSimpArgs false
set_option maxRecDepth 100000

/-- A row in memory: its things as they stand, how long each is; n: how many, with none. -/
def RowAt (w : World) (b k g cap n : Nat) (F : List Nat) (len : Nat → Int) : Prop :=
  ∃ L t, Things w b k g cap L ∧ L.length = n ∧ RowOk (gt L) n t ∧ t.flat = F ∧ ∀ x, (gt L x).long = len x
theorem RowAt.keep {S : Nat → Prop} {w w' : World} {b k g cap n : Nat} {F : List Nat} {len : Nat → Int} (h : RowAt w b k g cap n F len) (t : Touch S w w') (hb : ¬ S b) (hg : ¬ S g) : RowAt w' b k g cap n F len := by
  obtain ⟨L, tr, h1, h2⟩ := h
  exact ⟨L, tr, h1.keep t hb hg, h2⟩
theorem RowAt.cellb {w : World} {b k g cap n : Nat} {F : List Nat} {len : Nat → Int} (h : RowAt w b k g cap n F len) : w.cell? ⟨b, k, none⟩ = some (.slice (some ⟨g, 0, none⟩) n cap) := by
  obtain ⟨L, tr, h1, rfl, _⟩ := h
  exact h1.cell
theorem RowAt.lt {w : World} {b k g cap n : Nat} {F : List Nat} {len : Nat → Int} (h : RowAt w b k g cap n F len) : g < w.heap.size := by
  obtain ⟨L, tr, h1, _⟩ := h
  exact h1.lt
theorem RowAt.ne {w : World} {b k g cap n : Nat} {F : List Nat} {len : Nat → Int} (h : RowAt w b k g cap n F len) : b ≠ g := by
  obtain ⟨L, tr, h1, _⟩ := h
  exact h1.ne
/-- What is so of a row's list. -/
structure RowF (n : Nat) (F : List Nat) (len : Nat → Int) : Prop where
  n0 : 0 < n
  nod : F.Nodup
  lab : ∀ x, x ∈ F ↔ 1 ≤ x ∧ x < n
  long : ∀ x, 0 ≤ len x
  zero : len 0 = 0
  out : ∀ x, n ≤ x → len x = 0
theorem RowAt.form {w : World} {b k g cap n : Nat} {F : List Nat} {len : Nat → Int} (h : RowAt w b k g cap n F len) : RowF n F len := by
  obtain ⟨L, tr, h1, rfl, h3, rfl, h5⟩ := h
  refine ⟨h3.n0, h3.nod, h3.lab, fun x => by rw [← h5]; exact h3.long x, by rw [← h5, h3.head], fun x hx => by rw [← h5, h3.out x hx]⟩
theorem len_eq {L : List Th} {len : Nat → Int} (h : ∀ x, (gt L x).long = len x) : (fun x => (gt L x).long) = len := funext h
theorem r_lengthOf {w : World} {b k g cap n : Nat} {F : List Nat} {len : Nat → Int} (h : RowAt w b k g cap n F len) (i : Nat) (hi : i < n) :
    Calls Try.prog 47 #[rP b k, iV (i : Int)] w fun e w' => e = .returned (iV (len i)) ∧ w' = w := by
  obtain ⟨L, tr, h1, rfl, h3, rfl, h5⟩ := h
  have := lengthOf_any h1 i hi
  rw [← gt_of hi, h5] at this
  exact this
theorem r_length {w : World} {b k g cap n : Nat} {F : List Nat} {len : Nat → Int} (h : RowAt w b k g cap n F len) :
    Calls Try.prog 49 #[rP b k] w fun e w' => e = .returned (iV (sumF len F)) ∧ Touch (fun _ => False) w w' := by
  obtain ⟨L, tr, h1, rfl, h3, rfl, h5⟩ := h
  have hF : tr.Fits L.length := fun x hx => by have := (h3.lab x).1 hx; exact ⟨by omega, by omega⟩
  have hd : L[0]'h3.n0 = gt L 0 := (gt_of h3.n0).symm
  have hr : (L[0]'h3.n0).d1 < L.length := by rw [hd, h3.head]; exact hF.root h3.n0
  have := length_any h1 h3.n0 hr
  have e : L[(L[0]'h3.n0).d1].whole = sumF len tr.flat := by
    rw [← gt_of hr, hd, h3.head]
    show (gt L tr.root).whole = _
    rw [h3.rep.whole (by rw [h3.head]), sumF_tree, len_eq h5]
  rw [e] at this
  exact this
theorem r_at {w : World} {b k g cap n : Nat} {F : List Nat} {len : Nat → Int} (h : RowAt w b k g cap n F len) (hs : sumF len F ≤ 1152921504606846976) (p : Int) (hp : -4611686018427387904 ≤ p ∧ p ≤ 4611686018427387904) :
    Calls Try.prog 72 #[rP b k, iV p] w fun e w' => e = .returned (.tuple #[iV ((atF len F p).1 : Int), iV (atF len F p).2]) ∧ Touch (fun _ => False) w w' := by
  obtain ⟨L, tr, h1, rfl, h3, rfl, h5⟩ := h
  have hF : tr.Fits L.length := fun x hx => by have := (h3.lab x).1 hx; exact ⟨by omega, by omega⟩
  have := at_any h1 tr h3.rep hF h3.n0 (by rw [h3.head]) (by rw [h3.head]) (h3.tame (by rw [sumF_tree, len_eq h5]; exact hs)) p hp
  rw [atT_flat h3.long, len_eq h5] at this
  exact this
theorem r_ahead {w : World} {b k g cap n : Nat} {F : List Nat} {len : Nat → Int} (h : RowAt w b k g cap n F len) (hs : sumF len F ≤ 1152921504606846976) (i : Nat) (hi : i < n) (hi0 : i ≠ 0) :
    Calls Try.prog 48 #[rP b k, iV (i : Int)] w fun e w' => e = .returned (iV (aheadF len F i)) ∧ Touch (fun _ => False) w w' := by
  obtain ⟨L, tr, h1, rfl, h3, rfl, h5⟩ := h
  have hF : tr.Fits L.length := fun x hx => by have := (h3.lab x).1 hx; exact ⟨by omega, by omega⟩
  obtain ⟨c, l, r, e, n1, n2, hf⟩ := h3.seen hi hi0
  have hrep := h3.rep
  rw [e] at hrep
  obtain ⟨hC, q1, q2, q3, q4, q5, q6⟩ := (rep_plug (gt L) c (.node l i r)).1 hrep
  have hw0 : (gt L 0).whole = 0 := by rw [h3.head]
  have hle : (gt L l.root).whole = sumF len l.flat := by rw [q5.whole hw0, sumF_tree, len_eq h5]
  have hN := h3.nod
  rw [hf] at hN
  have hnd := List.nodup_append.1 hN
  have hnd1 := List.nodup_append.1 hnd.1
  have hnd2 := List.nodup_append.1 (List.nodup_cons.1 hnd.2.1).2
  have s1 := sumF_nn (len := len) (fun x => by rw [← h5]; exact h3.long x) l.flat
  have s2 := sumF_nn (len := len) (fun x => by rw [← h5]; exact h3.long x) (cl c)
  have hap : aheadF len tr.flat i = sumF len (cl c) + sumF len l.flat := by rw [hf, aheadF_of n1, sumF_append]
  have hle2 : aheadF len tr.flat i ≤ sumF len tr.flat := by
    have s3 := sumF_nn (len := len) (fun x => by rw [← h5]; exact h3.long x) (i :: (r.flat ++ cr c))
    rw [hap, hf, sumF_append, sumF_append]
    omega
  have hdr : (gt L i).d0 < L.length := by
    rw [q2]
    cases l with
    | nil => exact h3.n0
    | node x j y =>
      have : j ∈ tr.flat := by rw [hf]; simp [Tr.flat]
      exact ((h3.lab j).1 this).2
  have hfit : FitC c L.length := fun x hx => by
    have : x ∈ tr.flat := by
      rw [hf]
      rcases List.mem_append.1 hx with h' | h' <;> simp [h']
    have := (h3.lab x).1 this
    exact ⟨by omega, by omega⟩
  refine ahead_any h1 i c (aheadF len tr.flat i) hi hi0 hdr ?_ h3.n0 ⟨by rw [h3.head], by rw [h3.head], hw0⟩ (h3.tame (by rw [sumF_tree, len_eq h5]; exact hs)) (by omega)
  rw [q2, hle]
  refine ⟨s1, by omega, .inr ⟨hi0, hi, q1, ⟨_, hC⟩, hfit, ?_, ?_, ?_, ?_⟩⟩
  · exact List.nodup_append.2 ⟨hnd1.1, hnd2.2.1, fun x hx y hy => hnd.2.2 x (by simp [hx]) y (by simp [hy])⟩
  · intro h'
    rcases List.mem_append.1 h' with h' | h'
    · exact n1 (by simp [h'])
    · exact n2 (by simp [h'])
  · rw [h3.head, e, root_plug]; rfl
  · rw [sumC_cl, len_eq h5, hap]; omega
theorem r_last {w : World} {b k g cap n : Nat} {F : List Nat} {len : Nat → Int} (h : RowAt w b k g cap n F len) (p : Nat → Bool) (hm : ∀ x ∈ F.dropWhile p, p x = false) (c1 c2 : Value)
    (HP : ∀ (W : World) (x : Nat), Touch (fun _ => False) w W → x ∈ F → Calls Try.prog 68 #[iV (x : Int), c1, c2] W fun e w' => e = .returned (.bool (p x)) ∧ Touch (fun _ => False) W w') :
    Calls Try.prog 67 #[rP b k, .func (.func 68) #[] #[c1, c2]] w fun e w' => e = .returned (iV (lastF p F : Int)) ∧ Touch (fun _ => False) w w' := by
  obtain ⟨L, tr, h1, rfl, h3, rfl, h5⟩ := h
  have := last_any h1 tr h3 p c1 c2 HP
  rw [lastT_lastF tr hm] at this
  exact this
theorem r_next {w : World} {b k g cap n : Nat} {F : List Nat} {len : Nat → Int} (h : RowAt w b k g cap n F len) (i : Nat) (hi : i < n) :
    Calls Try.prog 82 #[rP b k, iV (i : Int)] w fun e w' => e = .returned (iV (nextF F i : Int)) ∧ Touch (fun _ => False) w w' := by
  obtain ⟨L, tr, h1, rfl, h3, rfl, h5⟩ := h
  by_cases hi0 : i = 0
  · subst hi0
    have := next_any h1 0 tr [] 0 hi h3.n0 (by rw [h3.head]) (by rw [h3.head]) h3.rep (fun x hx => by have := (h3.lab x).1 hx; exact ⟨by omega, by omega⟩) (.inl ⟨rfl, rfl, rfl⟩)
    have e : (if tr.root = 0 then 0 else tr.first) = nextF tr.flat 0 := by
      unfold nextF
      rw [if_pos rfl]
      cases tr with
      | nil => rfl
      | node l i r =>
        have : i ∈ (Tr.node l i r).flat := by simp [Tr.flat]
        have := (h3.lab i).1 this
        rw [if_neg (by show ¬ i = 0; omega)]
        obtain ⟨q, hq⟩ := first_head (t := .node l i r) (by simp)
        rw [hq]; rfl
    rw [e] at this
    exact this
  · obtain ⟨c, l, r, e, n1, n2, hf⟩ := h3.seen hi hi0
    have hrep := h3.rep
    rw [e] at hrep
    obtain ⟨hC, q1, q2, q3, q4, q5, q6⟩ := (rep_plug (gt L) c (.node l i r)).1 hrep
    have hN := h3.nod
    rw [hf] at hN
    have hnd := List.nodup_append.1 hN
    have hnd1 := List.nodup_append.1 hnd.1
    have hnd2 := List.nodup_append.1 (List.nodup_cons.1 hnd.2.1).2
    have hfit : FitC c L.length := fun x hx => by
      have : x ∈ tr.flat := by
        rw [hf]
        rcases List.mem_append.1 hx with h' | h' <;> simp [h']
      have := (h3.lab x).1 this
      exact ⟨by omega, by omega⟩
    have := next_any h1 i r c (nextC c) hi h3.n0 (by rw [h3.head]) q3 q6 (fun x hx => by have := (h3.lab x).1 (by rw [hf]; simp [hx]); exact ⟨by omega, by omega⟩) (.inr ⟨hi0, hi, q1, ⟨_, hC⟩, hfit, fun h' => by
      rcases List.mem_append.1 h' with h' | h'
      · exact n1 (by simp [h'])
      · exact n2 (by simp [h']), List.nodup_append.2 ⟨hnd1.1, hnd2.2.1, fun x hx y hy => hnd.2.2 x (by simp [hx]) y (by simp [hy])⟩, by rw [h3.head, e, root_plug]; rfl, rfl⟩)
    have e2 : (if r.root = 0 then nextC c else r.first) = nextF tr.flat i := by
      rw [hf, nextF_of hi0 n1]
      cases r with
      | nil => rw [if_pos (show Tr.nil.root = 0 from rfl), nextC_head]; rfl
      | node x j y =>
        have : j ∈ tr.flat := by rw [hf]; simp [Tr.flat]
        have := (h3.lab j).1 this
        rw [if_neg (by show ¬ j = 0; omega)]
        obtain ⟨q, hq⟩ := first_head (t := .node x j y) (by simp)
        rw [hq]; rfl
    rw [e2] at this
    exact this
theorem r_add {w : World} {b k g cap n : Nat} {F : List Nat} {len : Nat → Int} (h : RowAt w b k g cap n F len) (hfz : ∀ W : World, W.heap[b]? = w.heap[b]? → W.frozen? ⟨b, k, none⟩ = false) (i : Nat) (hi : i < n) (lg : Int) (hl : 0 ≤ lg) (hs : sumF len F + lg ≤ 1152921504606846976) (hn : n ≤ 1073741824) :
    Calls Try.prog 73 #[rP b k, iV (i : Int), iV lg] w fun e w' => e = .returned (.tuple #[]) ∧ (∃ g' cap', (g' = g ∨ w.heap.size ≤ g') ∧ RowAt w' b k g' cap' (n + 1) (insB i n F) (fun x => len x + (if x = n then lg else 0))) ∧ AddF w w' b k g := by
  obtain ⟨L, tr, h1, rfl, h3, rfl, h5⟩ := h
  refine (add_any h1 hfz tr h3 i hi lg hl (by rw [sumF_tree, len_eq h5]; exact hs) hn).mono ?_
  rintro e w' ⟨rfl, ⟨g', cap', L', t', P, Q, hg, q1, q2, q3, q4, q5, q6, q7⟩, q8⟩
  refine ⟨rfl, ⟨g', cap', hg, L', t', q1, q2, q3, ?_, fun x => by rw [q7, h5]⟩, q8⟩
  rw [q5, q4]
  have hN := h3.nod
  rw [q4] at hN
  rcases q6 with ⟨rfl, rfl⟩ | ⟨hi0, P', rfl⟩
  · rw [List.nil_append, List.nil_append, insB_zero]
  · rw [List.append_assoc, List.singleton_append, List.append_assoc, List.singleton_append]
    refine (insB_of hi0 fun h' => ?_).symm
    exact (List.nodup_append.1 (List.nodup_append.1 hN).1).2.2 i h' i (by simp) rfl
theorem r_grow {w : World} {b k g cap n : Nat} {F : List Nat} {len : Nat → Int} (h : RowAt w b k g cap n F len) (hs : sumF len F ≤ 1152921504606846976) (i : Nat) (hi : i < n) (hi0 : i ≠ 0) (m : Int) (hm : 0 ≤ len i + m) (hb : -1152921504606846976 ≤ m ∧ m ≤ 1152921504606846976) :
    Calls Try.prog 57 #[rP b k, iV (i : Int), iV m] w fun e w' => e = .returned (.tuple #[]) ∧ RowAt w' b k g cap n F (fun x => len x + (if x = i then m else 0)) ∧ Touch (· = g) w w' := by
  obtain ⟨L, tr, h1, rfl, h3, rfl, h5⟩ := h
  obtain ⟨c, l, r, e, n1, n2, hf⟩ := h3.seen hi hi0
  have hrep := h3.rep
  rw [e] at hrep
  obtain ⟨hC, q1, q2, q3, q4, q5, q6⟩ := (rep_plug (gt L) c (.node l i r)).1 hrep
  have hN := h3.nod
  rw [hf] at hN
  have hnd := List.nodup_append.1 hN
  have hnd1 := List.nodup_append.1 hnd.1
  have hnd2 := List.nodup_append.1 (List.nodup_cons.1 hnd.2.1).2
  have hcc : (cl c ++ cr c).Nodup := List.nodup_append.2 ⟨hnd1.1, hnd2.2.1, fun x hx y hy => hnd.2.2 x (by simp [hx]) y (by simp [hy])⟩
  have hic : i ∉ cl c ++ cr c := fun h' => by
    rcases List.mem_append.1 h' with h' | h'
    · exact n1 (by simp [h'])
    · exact n2 (by simp [h'])
  have hT := h3.tame (by rw [sumF_tree, len_eq h5]; exact hs)
  have hup : ∀ x ∈ i :: ups c, x ∈ tr.flat := fun x hx => by
    rcases List.mem_cons.1 hx with rfl | hx
    · rw [hf]; simp
    · rw [hf]
      rcases List.mem_append.1 (ups_sub hx) with h' | h' <;> simp [h']
  have hgo : ∀ x, x ≠ i → x ∉ i :: ups c → growA (gt L) i (i :: ups c) m x = gt L x := fun x h1 h2 => grow_other h1 h2
  refine (grow_any h1 i (ups c) m hi hi0 (fun x hx => by have := (h3.lab x).1 (hup x hx); exact ⟨by omega, by omega⟩) (List.nodup_cons.2 ⟨fun h' => hic (ups_sub h'), ups_nodup hcc⟩) (hC.way q1) (fun x hx => ?_) ?_).mono ?_
  · have := hT x
    rw [IntKind.wrap_i64]
    omega
  · have := hT i
    rw [IntKind.wrap_i64]
    omega
  rintro e' w' ⟨rfl, ⟨L', k1, k2, k3⟩, k4⟩
  have hrep2 : Rep (gt L') 0 tr := by rw [k3, e]; exact grow_rep hrep (by rw [← e]; exact h3.nod)
  refine ⟨rfl, ⟨L', tr, k1, k2, ⟨h3.n0, ?_, hrep2, h3.nod, h3.lab, fun x => ?_, fun x hx => ?_⟩, rfl, fun x => ?_⟩, k4⟩
  · rw [k3, grow_other (by omega) (fun h' => by have := (h3.lab 0).1 (hup 0 h'); omega), h3.head]
  · rw [k3, grow_long]
    have := h3.long x
    by_cases hx : x = i
    · rw [if_pos hx, hx, h5]; exact hm
    · rw [if_neg hx]; omega
  · rw [k3, grow_other (by omega) (fun h' => by have := (h3.lab x).1 (hup x h'); omega)]
    exact h3.out x hx
  · rw [k3, grow_long, h5]
end Go.Proofs.Ytcolbgbmnmkogaa
