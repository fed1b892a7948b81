/- A row's chunks one by one; the text of OpsRows; a row's chunks joined again. -/
import Derived.Test.YtphcnjbiojdalaaGreatDoorRowsM
import Derived.Test.YtphcnjbiojdalaaGreatDoorPart19
import Derived.Test.YtphcnjbiojdalaaGreatDoorPart14
import Derived.Deep.MidRow
namespace Go.Proofs.YtphcnjbiojdalaaGreatDoor
open Go.RowKit
set_option linter.unusedVariables false
set_option linter.unusedSimpArgs false
set_option maxRecDepth 100000

theorem chunks_get : ∀ (f a : Nat) (R : List Nat) (i : Nat) (h : i < (chunks f (base7 a) R).length), (chunks f (base7 a) R)[i] = p7 (a + 4096 * i) ((R.drop (4096 * i)).take 4096)
  | 0, a, R, i, h => by cases h
  | f + 1, a, R, i, h => by
    by_cases hs : R.length ≤ 4096
    · have e := chunks_small (f := f) (base7 a) hs
      have hi : i = 0 := by rw [e] at h; simpa using h
      subst hi
      simp only [e, List.getElem_cons_zero, Nat.mul_zero, List.drop_zero, Nat.add_zero]
      rw [List.take_of_length_le hs]
      rfl
    · have ht : (R.take 4096).length = 4096 := by rw [List.length_take]; omega
      have e := chunks_big (f := f) (base7 a) ht (R := R.drop 4096) (by rw [List.length_drop]; omega)
      rw [List.take_append_drop, base7_on a 4096 (by omega)] at e
      simp only [e] at h ⊢
      cases i with
      | zero =>
        rw [List.getElem_cons_zero, Nat.mul_zero, List.drop_zero]
        rfl
      | succ i =>
        rw [List.getElem_cons_succ, chunks_get f (a + 4096) (R.drop 4096) i (by simpa using h), List.drop_drop, show a + 4096 + 4096 * i = a + 4096 * (i + 1) from by omega, show 4096 + 4096 * i = 4096 * (i + 1) from by omega]
theorem chunks_count : ∀ (f a : Nat) (R : List Nat), 1 ≤ R.length → R.length ≤ 4096 * f → ∀ i, i < (chunks f (base7 a) R).length ↔ 4096 * i < R.length
  | 0, a, R, h1, h2, i => by omega
  | f + 1, a, R, h1, h2, i => by
    by_cases hs : R.length ≤ 4096
    · rw [chunks_small (f := f) (base7 a) hs, List.length_singleton]
      omega
    · have ht : (R.take 4096).length = 4096 := by rw [List.length_take]; omega
      have hd : (R.drop 4096).length = R.length - 4096 := List.length_drop
      have e := chunks_big (f := f) (base7 a) ht (R := R.drop 4096) (by omega)
      rw [List.take_append_drop, base7_on a 4096 (by omega)] at e
      rw [e, List.length_cons]
      cases i with
      | zero => omega
      | succ i =>
        have := chunks_count f (a + 4096) (R.drop 4096) (by omega) (by omega) i
        omega
/-- What a place in the list of chunks holds. -/
structure At7 (F : List Nat) (i : Nat) (x : O) (z : Nat) : Prop where
  eq : x = p7 (4096 * i) ((F.drop (4096 * i)).take 4096)
  len : lenO x = z
  rs : (rsOf x.tx.data.toList).length = z
  size : x.tx.size ≤ 1000000
  vf : x.vf < 18446744073709551616
theorem at7 {F : List Nat} (ho : ∀ r ∈ F, okRune r) (h1 : 1 ≤ F.length) (h2 : F.length ≤ 30000) (i : Nat) (h : i < (chunks 8 a7 F).length) : At7 F i (chunks 8 a7 F)[i] (min (F.length - 4096 * i) 4096) := by
  have h' : i < (chunks 8 (base7 0) F).length := h
  have hc := (chunks_count 8 0 F h1 (by omega) i).1 h'
  have e : (chunks 8 a7 F)[i]'h = p7 (4096 * i) ((F.drop (4096 * i)).take 4096) := by
    have := chunks_get 8 0 F i h'
    rw [Nat.zero_add] at this
    exact this
  have hl : ((F.drop (4096 * i)).take 4096).length = min (F.length - 4096 * i) 4096 := by rw [List.length_take, List.length_drop]; omega
  have h7 : Ok7 (4096 * i) ((F.drop (4096 * i)).take 4096) := ⟨fun r hr => ho r (List.mem_of_mem_drop (List.mem_of_mem_take hr)), by omega, by omega, by omega⟩
  have hp := p7_len (4096 * i) h7.ok
  have hsm := p7_small h7
  refine ⟨e, by rw [e, hp.2, hl], ?_, by rw [e]; exact hsm.1, by rw [e]; exact hsm.2.2.2⟩
  rw [e]
  have : rsOf (p7 (4096 * i) ((F.drop (4096 * i)).take 4096)).tx.data.toList = (F.drop (4096 * i)).take 4096 := hp.1
  rw [this, hl]
/-- ops.Join of a row of client 7. -/
theorem join7 {i : Nat} {l : List O} {S : List Nat} (h : Row7 i l S) (hne : l ≠ []) (hS : S.length ≤ 30000) (hl : l.length ≤ 1048576) (v : Value) (w : World) (hU : TabsU w) (hsl : SlP w v l) :
    Calls Tryz.prog 23 #[v] w fun e w' => ∃ v', e = .returned v' ∧ NewP w w' v' (chunks 8 (base7 i) S) := by
  obtain ⟨a, t, e, ha, hc, hp, hf, hj⟩ := h.join hne
  have := join_any l a t 7 v w hU hsl hl h.sized hp ha hc (by rw [hf]; omega) (by omega)
  rw [hf, hj] at this
  exact this
/-- The alphabet. -/
def abc : List Nat := List.range' 97 26
theorem abc_str : (⟨#[97, 98, 99, 100, 101, 102, 103, 104, 105, 106, 107, 108, 109, 110, 111, 112, 113, 114, 115, 116, 117, 118, 119, 120, 121, 122]⟩ : ByteArray) = strOf (encAll abc) := by
  apply ByteArray.ext
  rw [enc_ascii abc (by decide)]
  rfl
theorem rep_lt (k : Nat) : ∀ r ∈ rep7 abc k, r < 128 := by
  induction k with
  | zero => intro r hr; cases hr
  | succ k ih =>
    intro r hr
    rcases List.mem_append.1 hr with hr | hr
    · have : ∀ r ∈ abc, r < 128 := by decide
      exact this r hr
    · exact ih r hr
theorem rep_size (k : Nat) : (strOf (encAll (rep7 abc k))).size = 26 * k := by
  rw [strOf_size, enc_ascii _ (rep_lt k), List.length_map, rep7_len]
  show k * 26 = _
  omega
/-- The first m runes of the text. -/
theorem rep_cut (k m : Nat) : (encAll (rep7 abc k)).take m = encAll ((rep7 abc k).take m) := by
  rw [enc_ascii _ (rep_lt k), enc_ascii _ (fun r hr => rep_lt k r (List.mem_of_mem_take hr)), List.map_take]
/-- The two halves' chunks are a row. -/
theorem halves {R : List Nat} (ho : ∀ r ∈ R, okRune r) (h1 : 1 ≤ R.length) (n j : Nat) (hn : 1 ≤ n) (hj : j < n) (hN : n * R.length ≤ 30000) :
    Row7 0 ((if j = 0 then [] else chunks 8 (base7 0) (rep7 R j)) ++ chunks 8 (base7 (j * R.length)) (rep7 R (n - j))) (rep7 R n) := by
  have e : rep7 R n = rep7 R j ++ rep7 R (n - j) := by rw [← rep7_add, show j + (n - j) = n from by omega]
  have hm : j * R.length + (n - j) * R.length = n * R.length := by rw [← Nat.add_mul, show j + (n - j) = n from by omega]
  have hm1 : R.length ≤ (n - j) * R.length := Nat.le_mul_of_pos_left _ (by omega)
  have hl := rep7_len R (n - j)
  have hl1 := rep7_len R j
  have b2 : Row7 (j * R.length) (chunks 8 (base7 (j * R.length)) (rep7 R (n - j))) (rep7 R (n - j)) := Row7.ofChunks 8 _ _ (rep7_ok ho _) (by omega) (by omega) (by omega)
  rw [e]
  refine Row7.app ?_ (by rw [hl1, Nat.zero_add]; exact b2)
  by_cases h0 : j = 0
  · subst h0
    rw [if_pos rfl]
    exact Row7.nil 0
  · rw [if_neg h0]
    have hm0 : R.length ≤ j * R.length := Nat.le_mul_of_pos_left _ (by omega)
    exact Row7.ofChunks 8 0 _ (rep7_ok ho _) (by omega) (by omega) (by omega)
end Go.Proofs.YtphcnjbiojdalaaGreatDoor

/- An operation laid anew into a slice of our own; two that are changed for one another. -/
namespace Go.Proofs.YtphcnjbiojdalaaGreatDoor
open Go.RowKit Go.Maps
set_option linter.unusedVariables false
set_option linter.unusedSimpArgs false

theorem OwnP.sets {W : World} {v : Value} {n : Nat} {g cap : Nat} (e : v = .slice (some ⟨g, 0, none⟩) n cap) : ∀ (vs : List Value) (i : Nat) {w : World} {xs : List Value}, OwnP W w v n xs → i + vs.length ≤ n * 22 → (∀ y ∈ vs, y.oneCell' = true) → OwnP W (w.setCells g i vs) v n ((vs.zipIdx i).foldl (fun c x => c.set x.2 x.1) xs)
  | [], _, _, _, h, _, _ => h
  | y :: vs, i, w, xs, h, hi, hy => by
    rw [List.length_cons] at hi
    exact OwnP.sets e vs (i + 1) (h.set e i (by omega) y (hy y (List.mem_cons_self ..))) (by omega) (fun z hz => hy z (List.mem_cons_of_mem _ hz))
theorem sets_append (a b : List Value) : ∀ (vs cs : List Value) (i : Nat), i = a.length → cs.length = vs.length → (vs.zipIdx i).foldl (fun c x => c.set x.2 x.1) (a ++ cs ++ b) = a ++ vs ++ b := by
  intro vs
  induction vs generalizing a with
  | nil =>
    intro cs i _ hc
    have : cs = [] := List.length_eq_zero_iff.1 hc
    subst this
    rfl
  | cons y vs ih =>
    intro cs i hi hc
    cases cs with
    | nil => cases hc
    | cons z cs =>
      have e : (a ++ z :: cs ++ b).set i y = (a ++ [y]) ++ cs ++ b := by
        subst hi
        simp
      have := ih (a ++ [y]) cs (i + 1) (by simp [hi]) (by simpa using hc)
      show (vs.zipIdx (i + 1)).foldl _ ((a ++ z :: cs ++ b).set i y) = _
      rw [e, this]
      simp
theorem cellsP_split (l : List O) (j : Nat) (hj : j < l.length) (x : O) : cellsP l = cellsP (l.take j) ++ cellP l[j] ++ cellsP (l.drop (j + 1)) ∧ cellsP (l.set j x) = cellsP (l.take j) ++ cellP x ++ cellsP (l.drop (j + 1)) := by
  constructor
  · have e : l = l.take j ++ l[j] :: l.drop (j + 1) := by rw [List.getElem_cons_drop, List.take_append_drop]
    have := congrArg cellsP e
    rw [cellsP_append, cellsP_cons, ← List.append_assoc] at this
    exact this
  · rw [List.set_eq_take_append_cons_drop, if_pos hj, cellsP_append, cellsP_cons, ← List.append_assoc]
theorem NewP.setRow {W w : World} {v : Value} {l : List O} (h : NewP W w v l) {g cap : Nat} (e : v = .slice (some ⟨g, 0, none⟩) l.length cap) (j : Nat) (hj : j < l.length) (x : O) : NewP W (w.setCells g (j * 22) x.vals.toList) v (l.set j x) := by
  have h2 : OwnP W (w.setCells g (j * 22) x.vals.toList) v l.length (((cellP x).zipIdx (j * 22)).foldl (fun c x => c.set x.2 x.1) (cellsP l)) := OwnP.sets e (cellP x) (j * 22) h (by rw [cellP_len]; omega) (fun y hy => cellsP_one [x] y (by simpa [cellsP] using hy))
  have hs := cellsP_split l j hj x
  rw [hs.1, sets_append _ _ _ _ _ (by rw [cellsP_len, List.length_take]; congr 1; omega) (by rw [cellP_len, cellP_len]), ← hs.2] at h2
  show OwnP W _ v (l.set j x).length _
  rw [List.length_set]
  exact h2
theorem swap_perm (l : List O) (i k : Nat) (hi : i < l.length) (hk : k < l.length) : ((l.set i l[k]).set k l[i]).Perm l := List.set_set_perm hi hk
end Go.Proofs.YtphcnjbiojdalaaGreatDoor
