/- A text cut at any places, its pieces in any order: one row, and the text again. -/
import Derived.Test.YtphcnjbiojdalaaGreatDoorCutM
import Derived.Test.YtphcnjbiojdalaaGreatDoorPart13
import Derived.Deep.MidRow
import Derived.Test.YtphcnjbiojdalaaGreatDoorLib
import Derived.Test.YtphcnjbiojdalaaGreatDoorProg
import Derived.ProofKit
import Derived.OpenShut
namespace Go.Proofs.YtphcnjbiojdalaaGreatDoor
open Go.RowKit
set_option linter.unusedVariables false
set_option linter.unusedSimpArgs false

/-- The pieces between places. -/
def cutsO (o : O) : Nat → List Nat → List O
  | _, [] => []
  | i, j :: r => pieceO o i j :: cutsO o j r
/-- Places that rise up to n. -/
def Up (n : Nat) : Nat → List Nat → Prop
  | i, [] => i = n
  | i, j :: r => i < j ∧ Up n j r
theorem Up.le {n : Nat} : ∀ {i : Nat} {r : List Nat}, Up n i r → i ≤ n
  | _, [], h => Nat.le_of_eq h
  | _, j :: r, h => by have := Up.le h.2; have := h.1; omega
theorem cuts_check {o : O} (hf : o.fits) (hs : o.tx.size ≤ 17592186044416) (k1 : o.kind = 1) (hc : checkB o = true) : ∀ {i : Nat} {r : List Nat}, Up (lenO o) i r → ∀ p ∈ cutsO o i r, checkB p = true ∧ p.tx.size ≤ 1000000 ∧ p.ky = o.ky ∧ p.vs = o.vs ∧ p.vf = o.vf
  | _, [], _, p, hp => by cases hp
  | i, j :: r, h, p, hp => by
    have h2 := h.2.le
    have hn2 := (textO_of hf hs k1 hc).n2
    rcases List.mem_cons.1 hp with rfl | hp
    · have ry := piece_rest o i j
      exact ⟨piece_check hf hs k1 hc i j h.1 h2, piece_size k1 i j h.1 h2 hn2, ry.2.2.2.2.1, congrArg V.s ry.2.2.1, congrArg V.f ry.2.2.1⟩
    · exact cuts_check hf hs k1 hc h.2 p hp
theorem cuts_chain {o : O} (hf : o.fits) (hs : o.tx.size ≤ 17592186044416) (k1 : o.kind = 1) (hc : checkB o = true) (e : Nat) : ∀ {i : Nat} {r : List Nat}, 1 ≤ i → Up (lenO o) i r → Chain (pieceO o 0 e) i (cutsO o i r)
  | _, [], _, _ => trivial
  | i, j :: r, h1, h => by
    have h2 := h.2.le
    refine ⟨?_, piece_text hf hs k1 hc i j h.1 h2, ?_⟩
    · rw [piece_rs]
      unfold pieceO
      rw [if_pos rfl, if_neg (by omega)]
      rfl
    · rw [piece_len k1 i j h2, show i + (j - i) = j from by have := h.1; omega]
      exact cuts_chain hf hs k1 hc e (by have := h.1; omega) h.2
theorem cuts_text {o : O} (k1 : o.kind = 1) : ∀ {i : Nat} {r : List Nat}, Up (lenO o) i r → (cutsO o i r).flatMap rsO = (rsO o).drop i
  | i, [], h => by
    have : i = (rsO o).length := h.trans (lenO_text k1)
    rw [this, List.drop_length]
    rfl
  | i, j :: r, h => by
    have ih := cuts_text k1 h.2
    show rsO (pieceO o i j) ++ (cutsO o j r).flatMap rsO = _
    rw [ih, piece_rs]
    have h1 := h.1
    have h2 := h.2.le
    have hl : ((rsO o).take j).length = j := by rw [List.length_take]; have := lenO_text k1; unfold rsO; omega
    have key : ∀ (A B : List Nat), i ≤ A.length → (A ++ B).drop i = A.drop i ++ B := fun A B hi => by
      rw [List.drop_append, show i - A.length = 0 from by omega, List.drop_zero]
    have := key ((rsO o).take j) ((rsO o).drop j) (by omega)
    rw [List.take_append_drop] at this
    exact this.symm
/-- Joined, they are the text again. -/
theorem cuts_join {o : O} (hf : o.fits) (hs : o.tx.size ≤ 17592186044416) (k1 : o.kind = 1) (hc : checkB o = true) (e : Nat) (r : List Nat) (h : Up (lenO o) 0 (e :: r)) :
    TextO (pieceO o 0 e) ∧ Chain (pieceO o 0 e) (lenO (pieceO o 0 e)) (cutsO o e r) ∧ ((pieceO o 0 e :: cutsO o e r).flatMap rsO) = rsO o ∧ chunks (0 + 1) (pieceO o 0 e) (rsO o) = [o] := by
  have h2 := h.2.le
  have h1 := h.1
  have hT := textO_of hf hs k1 hc
  have hlen : (rsO o).length ≤ 4096 := by rw [← hT.len]; exact hT.n2
  refine ⟨piece_text hf hs k1 hc 0 e h1 h2, ?_, ?_, ?_⟩
  · rw [piece_len k1 0 e h2]
    exact cuts_chain hf hs k1 hc e h1 h.2
  · have := cuts_text k1 h
    rw [List.drop_zero] at this
    exact this
  · rw [chunks_small _ hlen]
    have : (pieceO o 0 e).withT (rsO o) = o := hT.enc
    rw [this]
end Go.Proofs.YtphcnjbiojdalaaGreatDoor

/- An operation laid anew into a slice of our own; two that are changed for one another. -/
namespace Go.Proofs.YtphcnjbiojdalaaGreatDoor
open Go.RowKit Go.Maps
set_option linter.unusedVariables false
set_option linter.unusedSimpArgs false

theorem OwnP.sets {W : World} {v : Value} {n : Nat} {g cap : Nat} (e : v = .slice (some ⟨g, 0, none⟩) n cap) : ∀ (vs : List Value) (i : Nat) {w : World} {xs : List Value}, OwnP W w v n xs → i + vs.length ≤ n * 22 → (∀ y ∈ vs, y.oneCell' = true) → OwnP W (w.setCells g i vs) v n ((vs.zipIdx i).foldl (fun c x => c.set x.2 x.1) xs)
  | [], _, _, _, h, _, _ => h
  | y :: vs, i, w, xs, h, hi, hy => by
    rw [List.length_cons] at hi
    exact OwnP.sets e vs (i + 1) (h.set e i (by omega) y (hy y (List.mem_cons_self ..))) (by omega) (fun z hz => hy z (List.mem_cons_of_mem _ hz))
theorem sets_append (a b : List Value) : ∀ (vs cs : List Value) (i : Nat), i = a.length → cs.length = vs.length → (vs.zipIdx i).foldl (fun c x => c.set x.2 x.1) (a ++ cs ++ b) = a ++ vs ++ b := by
  intro vs
  induction vs generalizing a with
  | nil =>
    intro cs i _ hc
    have : cs = [] := List.length_eq_zero_iff.1 hc
    subst this
    rfl
  | cons y vs ih =>
    intro cs i hi hc
    cases cs with
    | nil => cases hc
    | cons z cs =>
      have e : (a ++ z :: cs ++ b).set i y = (a ++ [y]) ++ cs ++ b := by
        subst hi
        simp
      have := ih (a ++ [y]) cs (i + 1) (by simp [hi]) (by simpa using hc)
      show (vs.zipIdx (i + 1)).foldl _ ((a ++ z :: cs ++ b).set i y) = _
      rw [e, this]
      simp
theorem cellsP_split (l : List O) (j : Nat) (hj : j < l.length) (x : O) : cellsP l = cellsP (l.take j) ++ cellP l[j] ++ cellsP (l.drop (j + 1)) ∧ cellsP (l.set j x) = cellsP (l.take j) ++ cellP x ++ cellsP (l.drop (j + 1)) := by
  constructor
  · have e : l = l.take j ++ l[j] :: l.drop (j + 1) := by rw [List.getElem_cons_drop, List.take_append_drop]
    have := congrArg cellsP e
    rw [cellsP_append, cellsP_cons, ← List.append_assoc] at this
    exact this
  · rw [List.set_eq_take_append_cons_drop, if_pos hj, cellsP_append, cellsP_cons, ← List.append_assoc]
theorem NewP.setRow {W w : World} {v : Value} {l : List O} (h : NewP W w v l) {g cap : Nat} (e : v = .slice (some ⟨g, 0, none⟩) l.length cap) (j : Nat) (hj : j < l.length) (x : O) : NewP W (w.setCells g (j * 22) x.vals.toList) v (l.set j x) := by
  have h2 : OwnP W (w.setCells g (j * 22) x.vals.toList) v l.length (((cellP x).zipIdx (j * 22)).foldl (fun c x => c.set x.2 x.1) (cellsP l)) := OwnP.sets e (cellP x) (j * 22) h (by rw [cellP_len]; omega) (fun y hy => cellsP_one [x] y (by simpa [cellsP] using hy))
  have hs := cellsP_split l j hj x
  rw [hs.1, sets_append _ _ _ _ _ (by rw [cellsP_len, List.length_take]; congr 1; omega) (by rw [cellP_len, cellP_len]), ← hs.2] at h2
  show OwnP W _ v (l.set j x).length _
  rw [List.length_set]
  exact h2
theorem swap_perm (l : List O) (i k : Nat) (hi : i < l.length) (hk : k < l.length) : ((l.set i l[k]).set k l[i]).Perm l := List.set_set_perm hi hk
end Go.Proofs.YtphcnjbiojdalaaGreatDoor

/- Bytes that lie in a block. -/
namespace Go.Proofs.YtphcnjbiojdalaaGreatDoor
open Go.RowKit
set_option linter.unusedVariables false

/-- The bytes bs lie in block g, where a slice of that address begins (nothing is asked where there are none). -/
def Lies (w : World) (g : Nat) (ao : Option Addr) (bs : List UInt8) : Prop :=
  bs = [] ∨ ∃ off, ao = some ⟨g, off, none⟩ ∧ ∀ j (h : j < bs.length), w.cell? ⟨g, off + j, none⟩ = some (.int .u8 bs[j].toNat)

theorem Lies.drop {w : World} {g : Nat} {bs : List UInt8} {a : Addr} (h : Lies w g (some a) bs) (n : Nat) : Lies w g (some (a.add n)) (bs.drop n) := by
  rcases h with rfl | ⟨off, e, h⟩
  · exact .inl (by simp)
  · cases e
    refine .inr ⟨off + n, by simp [Addr.add], fun j hj => ?_⟩
    have := h (n + j) (by simp at hj; omega)
    rw [show off + n + j = off + (n + j) from by omega, this]; simp

theorem Lies.take {w : World} {g : Nat} {bs : List UInt8} {ao : Option Addr} (h : Lies w g ao bs) (n : Nat) : Lies w g ao (bs.take n) := by
  rcases h with rfl | ⟨off, e, h⟩
  · exact .inl (by simp)
  · exact .inr ⟨off, e, fun j hj => by have := h j (by simp at hj; omega); simpa using this⟩

theorem Lies.map {w : World} {g : Nat} {bs : List UInt8} {ao : Option Addr} (h : Lies w g ao bs) (n : Nat) : Lies w g (Option.map (fun x => x.add n) ao) (bs.drop n) := by
  rcases ao with _ | a
  · rcases h with rfl | ⟨off, e, _⟩
    · exact .inl (by simp)
    · cases e
  · exact h.drop n

/-- The bytes lie as they lay, where their block is as it was. -/
theorem Lies.keep {w w' : World} {g : Nat} {bs : List UInt8} {ao : Option Addr} (h : Lies w g ao bs) (hg : bs ≠ [] → w'.heap[g]? = w.heap[g]?) : Lies w' g ao bs := by
  by_cases e : bs = []
  · exact .inl e
  · rcases h with h | ⟨off, ha, h⟩
    · exact absurd h e
    · exact .inr ⟨off, ha, fun j hj => (World.cell?_of_block (a := ⟨g, off + j, none⟩) (hg e)).trans (h j hj)⟩

theorem Lies.lt {w : World} {g : Nat} {bs : List UInt8} {ao : Option Addr} (h : Lies w g ao bs) (e : bs ≠ []) : g < w.heap.size := by
  rcases h with h | ⟨off, ha, h⟩
  · exact absurd h e
  · exact World.block_lt_of_cell? _ _ (h 0 (List.length_pos_iff.2 e))
end Go.Proofs.YtphcnjbiojdalaaGreatDoor

/- Arguments that are slices of bytes: from their reading to where their bytes lie. -/
namespace Go.Proofs.YtphcnjbiojdalaaGreatDoor
open Go.ChangeShapes Go.WideShapes Go.ChangeAt Go.RowKit
set_option linter.unusedVariables false

/-- A slice of bytes that came in. -/
def IsBytes (w : World) (ao : Option Addr) (n cap : Nat) : Prop :=
  ∃ g bs, n = bs.length ∧ (ao = none → cap = 0) ∧ Lies w g ao bs ∧ (bs ≠ [] → g < w.heap.size) ∧ bs.length ≤ 9223372036854775807

theorem isBytes_of {H : Type} {enc : TypeId × Value → H} {P : Program} {w : World} {base : Nat} {held : Bool} {t e : TypeId} {fuel n cap : Nat} {ao : Option Addr} {x : DataW H × List MemPlace}
    (ht : P.underlying t = some (.slice e)) (he : P.underlying e = some (.int .u8)) (hc : P.cellsOf e = 1)
    (h : DataW.trod enc P w base (fun _ => true) held fuel t (Value.slice ao n cap).cells.toList = some x) : IsBytes w ao n cap := by
  rcases open_ints ht he hc h with ⟨hcs, _⟩ | ⟨a, l, c, zs, hcs, _, hl, hm, hz, _, hcell, hwz⟩
  · simp [Value.cells] at hcs
    obtain ⟨rfl, rfl, rfl⟩ := hcs
    exact ⟨0, [], rfl, fun _ => rfl, .inl rfl, fun h => absurd rfl h, by simp⟩
  · simp [Value.cells] at hcs
    obtain ⟨rfl, rfl, rfl⟩ := hcs
    simp only [if_true] at hz
    refine ⟨a.block, (zs.take n).map (fun z => UInt8.ofNat z.toNat), by simp; omega, (by intro h; cases h), ?_, ?_, by simp [maxLen] at hm ⊢; omega⟩
    · by_cases hn : n = 0
      · subst hn; exact .inl (by simp)
      · have h0 : w.cell? (a.add 0) = some (.int .u8 (zs.getD 0 0)) := hcell 0 (by omega)
        obtain ⟨b, off, rfl, _⟩ : ∃ b off, a = ⟨b, off, none⟩ ∧ True := by
          obtain ⟨b, off, spot⟩ := a
          cases spot with
          | none => exact ⟨b, off, rfl, trivial⟩
          | some s => exfalso; simp [World.cell?, Addr.add] at h0; split at h0 <;> simp_all
        refine .inr ⟨off, rfl, fun j hj => ?_⟩
        simp at hj
        have e2 : (⟨b, off, none⟩ : Addr).add j = ⟨b, off + j, none⟩ := by unfold Addr.add; split <;> simp_all
        have hj2 : j < zs.length := by omega
        rw [← e2, hcell j hj2]
        have hw := hwz (zs.getD j 0) (by simp [List.getD, List.getElem?_eq_getElem hj2])
        simp [Lit.wf, IntKind.min, IntKind.max, IntKind.signed, IntKind.bits] at hw
        simp [List.getElem?_eq_getElem hj2] at hw ⊢
        omega
    · intro hne
      have hn : 0 < n := by
        rcases Nat.eq_zero_or_pos n with e | e
        · subst e; simp at hne
        · exact e
      have h0 : w.cell? (a.add 0) = some (.int .u8 (zs.getD 0 0)) := hcell 0 (by omega)
      have := World.block_lt_of_cell? _ _ h0
      simpa [Addr.add] using this
end Go.Proofs.YtphcnjbiojdalaaGreatDoor
