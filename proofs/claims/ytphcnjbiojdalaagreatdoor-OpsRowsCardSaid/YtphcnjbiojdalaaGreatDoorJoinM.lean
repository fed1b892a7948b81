/- Rows of texts: what pieces they are cut into, as functions. -/
import Derived.Test.YtphcnjbiojdalaaGreatDoorOpK
import Derived.Test.YtphcnjbiojdalaaGreatDoorOpZ
namespace Go.Proofs.YtphcnjbiojdalaaGreatDoor
open Go.RowKit
set_option linter.unusedVariables false
set_option linter.unusedSimpArgs false

/-- Its runes. -/
def rsO (o : O) : List Nat := rsOf o.tx.data.toList
/-- What stands n runes behind it. -/
def O.onward (o : O) (n : Nat) : O := { o with k := o.k + (n : Int), lc := o.c, lk := o.k + (n : Int) - 1 }
def O.withT (o : O) (R : List Nat) : O := { o with tx := strOf (encAll R) }
theorem onward_add (o : O) (m n : Nat) : (o.onward m).onward n = o.onward (m + n) := by
  unfold O.onward
  congr 1 <;> push_cast <;> omega
theorem onward_withT (o : O) (n : Nat) (R S : List Nat) : ((o.onward n).withT R).withT S = (o.onward n).withT S := rfl
theorem withT_onward (o : O) (n : Nat) (R : List Nat) : (o.withT R).onward n = (o.onward n).withT R := rfl
def chunks : Nat → O → List Nat → List O
  | 0, _, _ => []
  | f + 1, o, R => if R.length ≤ 4096 then [o.withT R] else o.withT (R.take 4096) :: chunks f (o.onward 4096) (R.drop 4096)
/-- How far from a row's first rune it begins, in its piece. -/
def aheadO (k0 : Int) (o : O) : Int := IntKind.u64.wrap (o.k - k0) % 4096
def bnd (k0 : Int) (o : O) : Bool := aheadO k0 o == 0
def piecesF (k0 : Int) : List O → O → List O → List O
  | init, last, [] => init ++ [last]
  | init, last, p :: ps => bif bnd k0 p then piecesF k0 (init ++ [last]) p ps else piecesF k0 init { last with tx := last.tx ++ p.tx } ps
def endP (k0 : Int) (o : O) : Int := min (lenO o : Int) (4096 - aheadO k0 o)
def partsOf (k0 : Int) (o : O) : List O := cutRes o 0 (endP k0 o) :: (bif cutOk o (endP k0 o) (lenO o) then [cutRes o (endP k0 o) (lenO o)] else [])
def partsL (k0 : Int) (l : List O) : List O := l.flatMap (partsOf k0)
/-- A text that Check takes. -/
structure TextO (o : O) : Prop where
  kind : o.kind = 1
  vf : refBits o.vf = o.vf
  some : (runesOf o.tx.data.toList).isSome = true
  n1 : 1 ≤ lenO o
  n2 : lenO o ≤ 4096
  c0 : 0 ≤ o.k
  k2 : o.k + (lenO o : Int) ≤ 9007199254740992
theorem TextO.len {o : O} (h : TextO o) : lenO o = (rsO o).length := lenO_text h.kind
theorem TextO.ok {o : O} (h : TextO o) : ∀ r ∈ rsO o, okRune r := rsOf_ok _
theorem TextO.enc {o : O} (h : TextO o) : o.withT (rsO o) = o := by
  obtain ⟨rs, hr⟩ := Option.isSome_iff_exists.1 h.some
  have e := (enc_runesOf rs _ hr).2
  have : strOf (encAll (rsO o)) = o.tx := by
    unfold rsO
    rw [rsOf_some hr, e]
    rfl
  unfold O.withT
  rw [this]
theorem TextO.clean {o : O} (h : TextO o) : o.clean = o := by
  unfold O.clean
  rw [h.vf]
theorem TextO.cut0 {o : O} (h : TextO o) (e : Nat) (h1 : 1 ≤ e) (h2 : e ≤ lenO o) : cutRes o 0 (e : Int) = o.withT ((rsO o).take e) ∧ cutOk o 0 (e : Int) = true := by
  have hk : cutOk o 0 (e : Int) = true := by unfold cutOk; simp; omega
  refine ⟨?_, hk⟩
  unfold cutRes
  rw [if_pos hk, if_pos h.kind, if_neg (by omega), h.clean]
  unfold O.cutT O.withT cutOf cutR rsO
  simp
theorem TextO.cut1 {o : O} (h : TextO o) (e : Nat) (h1 : 1 ≤ e) (h2 : e < lenO o) : cutRes o (e : Int) (lenO o : Int) = (o.onward e).withT ((rsO o).drop e) ∧ cutOk o (e : Int) (lenO o : Int) = true := by
  have hk : cutOk o (e : Int) (lenO o : Int) = true := by unfold cutOk; simp; omega
  have k2 := h.k2
  have c0 := h.c0
  have w1 : IntKind.u64.wrap (e : Int) = (e : Int) := wrap_u64_small _ (by omega) (by omega)
  have w2 : IntKind.u64.wrap (o.k + (e : Int)) = o.k + (e : Int) := wrap_u64_small _ (by omega) (by omega)
  have w3 : IntKind.u64.wrap (o.k + (e : Int) - 1) = o.k + (e : Int) - 1 := wrap_u64_small _ (by omega) (by omega)
  refine ⟨?_, hk⟩
  unfold cutRes
  rw [if_pos hk, if_pos h.kind, if_pos (by omega), h.clean]
  unfold O.cutT O.withT O.moved O.onward cutOf cutR
  simp only [w1, w2, w3, Int.toNat_natCast]
  rw [h.len]
  unfold rsO
  rw [List.take_length]
theorem TextO.cutn {o : O} (h : TextO o) : cutRes o 0 (lenO o : Int) = o ∧ cutOk o (lenO o : Int) (lenO o : Int) = false := by
  refine ⟨?_, by unfold cutOk; simp⟩
  rw [(h.cut0 (lenO o) h.n1 (Nat.le_refl _)).1, h.len, List.take_length]
  exact h.enc
/-- l's texts go on, n runes behind h's first. -/
def Chain (h : O) : Nat → List O → Prop
  | _, [] => True
  | n, b :: l => b = (h.onward n).withT (rsO b) ∧ TextO b ∧ Chain h (n + lenO b) l
theorem Chain.shift {h : O} {m : Nat} : ∀ {n : Nat} {l : List O}, Chain h (m + n) l → Chain (h.onward m) n l
  | _, [], _ => trivial
  | n, b :: l, hc => by
    refine ⟨?_, hc.2.1, ?_⟩
    · rw [onward_add]; exact hc.1
    · exact Chain.shift (by rw [← Nat.add_assoc]; exact hc.2.2)
theorem chunks_small {f : Nat} (o : O) {R : List Nat} (h : R.length ≤ 4096) : chunks (f + 1) o R = [o.withT R] := by rw [chunks, if_pos h]
theorem chunks_big {f : Nat} (o : O) {X R : List Nat} (hX : X.length = 4096) (hR : 1 ≤ R.length) : chunks (f + 1) o (X ++ R) = o.withT X :: chunks f (o.onward 4096) R := by
  rw [chunks, if_neg (by rw [List.length_append]; omega), List.take_left' hX, List.drop_left' hX]
theorem str_app (a b : List Nat) : strOf (encAll a) ++ strOf (encAll b) = strOf (encAll (a ++ b)) := by
  rw [encAll_append]
  unfold strOf
  apply ByteArray.ext
  simp [ByteArray.data_append]
theorem ahead_of {k0 : Int} {b h : O} {i n : Nat} (hk : h.k = k0 + 4096 * (i : Int)) (hb : b.k = h.k + (n : Int)) (h0 : 0 ≤ k0) (h1 : b.k < 9007199254740992) : aheadO k0 b = ((n % 4096 : Nat) : Int) := by
  unfold aheadO
  rw [wrap_u64_small _ (by omega) (by omega)]
  omega
/-- Pieces of a row are its chunks. -/
theorem pieces_chunks (k0 : Int) (h0 : 0 ≤ k0) : ∀ (l : List O) (init : List O) (h : O) (X : List Nat) (i f : Nat), h.k = k0 + 4096 * (i : Int) → 1 ≤ X.length → X.length ≤ 4096 → Chain h X.length l → (X ++ l.flatMap rsO).length ≤ 4096 * (f + 1) →
    piecesF k0 init (h.withT X) (partsL k0 l) = init ++ chunks (f + 1) h (X ++ l.flatMap rsO) := by
  intro l
  induction l with
  | nil =>
    intro init h X i f hk h1 h2 _ hf
    simp only [partsL, List.flatMap_nil, List.append_nil, piecesF]
    rw [chunks_small h h2]
  | cons b l ih =>
    intro init h X i f hk h1 h2 hc hf
    obtain ⟨hb, ht, hc⟩ := hc
    have hlen := ht.len
    have hn1 := ht.n1
    have hn2 := ht.n2
    have hbk : b.k = h.k + (X.length : Int) := by rw [hb]; rfl
    have hk2 := ht.k2
    have hah := ahead_of hk hbk h0 (by omega)
    have hfl : (X ++ (b :: l).flatMap rsO) = (X ++ rsO b) ++ l.flatMap rsO := by simp [List.append_assoc]
    rw [hfl] at hf ⊢
    by_cases hX : X.length = 4096
    · -- a new piece begins with b
      have e1 : endP k0 b = (lenO b : Int) := by unfold endP; rw [hah, hX]; omega
      have e2 : bnd k0 b = true := by unfold bnd; rw [hah, hX]; rfl
      have ep : partsL k0 (b :: l) = b :: partsL k0 l := by
        show partsOf k0 b ++ partsL k0 l = _
        unfold partsOf
        rw [e1, ht.cutn.1, ht.cutn.2]
        rfl
      rw [ep, piecesF, e2, cond_true]
      have hb2 : b = (h.onward 4096).withT (rsO b) := by rw [← hX]; exact hb
      have hfl2 : f ≠ 0 := by
        intro e
        subst e
        simp only [List.length_append] at hf
        omega
      obtain ⟨f, rfl⟩ := Nat.exists_eq_succ_of_ne_zero hfl2
      have IH := ih (init ++ [h.withT X]) (h.onward 4096) (rsO b) (i + 1) f (by show h.k + ((4096 : Nat) : Int) = _; omega) (by omega) (by omega) (Chain.shift (by rw [← hX, ← hlen]; exact hc)) (by simp only [List.length_append] at hf ⊢; omega)
      rw [← hb2] at IH
      rw [IH, List.append_assoc X, chunks_big h hX (by rw [List.length_append]; omega), List.append_assoc]
      rfl
    · have hX2 : X.length < 4096 := by omega
      have hm : X.length % 4096 = X.length := Nat.mod_eq_of_lt hX2
      rw [hm] at hah
      have e2 : bnd k0 b = false := by unfold bnd; exact beq_false_of_ne (by rw [hah]; omega)
      by_cases hs : lenO b ≤ 4096 - X.length
      · -- it goes wholly into this piece
        have e1 : endP k0 b = (lenO b : Int) := by unfold endP; rw [hah]; omega
        have ep : partsL k0 (b :: l) = b :: partsL k0 l := by
          show partsOf k0 b ++ partsL k0 l = _
          unfold partsOf
          rw [e1, ht.cutn.1, ht.cutn.2]
          rfl
        rw [ep, piecesF, e2, cond_false]
        have htx : (h.withT X).tx ++ b.tx = strOf (encAll (X ++ rsO b)) := by
          rw [← str_app]
          congr 1
          have := congrArg O.tx ht.enc
          exact this.symm
        have hw : ({ h.withT X with tx := (h.withT X).tx ++ b.tx } : O) = h.withT (X ++ rsO b) := by
          rw [htx]; rfl
        rw [hw]
        exact ih init h (X ++ rsO b) i f hk (by rw [List.length_append]; omega) (by rw [List.length_append]; omega) (by rw [List.length_append, ← hlen]; exact hc) hf
      · -- it is cut
        obtain ⟨e, he⟩ : ∃ e : Nat, e = 4096 - X.length := ⟨_, rfl⟩
        have e1 : endP k0 b = (e : Int) := by unfold endP; rw [hah]; omega
        have c0 := ht.cut0 e (by omega) (by omega)
        have c1 := ht.cut1 e (by omega) (by omega)
        have ep : partsL k0 (b :: l) = b.withT ((rsO b).take e) :: (b.onward e).withT ((rsO b).drop e) :: partsL k0 l := by
          show partsOf k0 b ++ partsL k0 l = _
          unfold partsOf
          rw [e1, c0.1, c1.1, c1.2]
          rfl
        have e3 : bnd k0 (b.withT ((rsO b).take e)) = false := e2
        have e4 : bnd k0 ((b.onward e).withT ((rsO b).drop e)) = true := by
          have := ahead_of (b := (b.onward e).withT ((rsO b).drop e)) (n := X.length + e) hk (by show b.k + (e : Int) = _; rw [hbk]; push_cast; omega) h0 (by show b.k + (e : Int) < _; omega)
          unfold bnd
          rw [this, show X.length + e = 4096 from by omega]
          rfl
        rw [ep, piecesF, e3, cond_false, piecesF, e4, cond_true]
        have hw : ({ h.withT X with tx := (h.withT X).tx ++ (b.withT ((rsO b).take e)).tx } : O) = h.withT (X ++ (rsO b).take e) := by
          show ({ h with tx := strOf (encAll X) ++ strOf (encAll ((rsO b).take e)) } : O) = _
          rw [str_app]; rfl
        rw [hw]
        have hb2 : (b.onward e).withT ((rsO b).drop e) = (h.onward 4096).withT ((rsO b).drop e) := by
          have e5 : b.onward e = (h.onward (X.length + e)).withT (rsO b) := by
            conv => lhs; rw [hb]
            rw [withT_onward, onward_add]
          rw [e5, onward_withT, show X.length + e = 4096 from by omega]
        have hfl2 : f ≠ 0 := by
          intro e'
          subst e'
          simp only [List.length_append] at hf
          omega
        obtain ⟨f, rfl⟩ := Nat.exists_eq_succ_of_ne_zero hfl2
        have hdl : ((rsO b).drop e).length = lenO b - e := by rw [List.length_drop, hlen]
        have htl : ((rsO b).take e).length = e := by rw [List.length_take]; omega
        have IH := ih (init ++ [h.withT (X ++ (rsO b).take e)]) (h.onward 4096) ((rsO b).drop e) (i + 1) f (by show h.k + ((4096 : Nat) : Int) = _; omega) (by omega) (by omega) (Chain.shift (by rw [hdl, show 4096 + (lenO b - e) = X.length + lenO b from by omega]; exact hc)) (by simp only [List.length_append] at hf ⊢; omega)
        rw [hb2, IH]
        have hsp : X ++ rsO b ++ l.flatMap rsO = (X ++ (rsO b).take e) ++ ((rsO b).drop e ++ l.flatMap rsO) := by
          conv => lhs; rw [← List.take_append_drop e (rsO b)]
          simp only [List.append_assoc]
        rw [hsp, chunks_big h (by rw [List.length_append, htl]; omega) (by rw [List.length_append, hdl]; omega), List.append_assoc]
        rfl
/-- A row that begins with a. -/
theorem row_chunks (a : O) (l : List O) (ha : TextO a) (hc : Chain a (lenO a) l) (f : Nat) (hf : ((a :: l).flatMap rsO).length ≤ 4096 * (f + 1)) :
    ∃ p ps, partsL a.k (a :: l) = p :: ps ∧ bnd a.k p = true ∧ piecesF a.k [] p ps = chunks (f + 1) a ((a :: l).flatMap rsO) := by
  have hah : aheadO a.k a = 0 := by unfold aheadO; rw [Int.sub_self]; rfl
  have n2 := ha.n2
  have e1 : endP a.k a = (lenO a : Int) := by unfold endP; rw [hah]; omega
  refine ⟨a, partsL a.k l, ?_, by unfold bnd; rw [hah]; rfl, ?_⟩
  · show partsOf a.k a ++ partsL a.k l = _
    unfold partsOf
    rw [e1, ha.cutn.1, ha.cutn.2]
    rfl
  · have := pieces_chunks a.k ha.c0 l [] a (rsO a) 0 f (by omega) (by rw [← ha.len]; exact ha.n1) (by rw [← ha.len]; exact n2) (by rw [← ha.len]; exact hc) hf
    rw [ha.enc] at this
    exact this
end Go.Proofs.YtphcnjbiojdalaaGreatDoor
