/- Arguments that are values (api.Value): from their reading to what they hold. -/
import Derived.Test.YtijkekkjiboomaaGreatDoorPart1
import Derived.Lib.SmallJoins
import Derived.ProofKit
import Derived.OpenShut
import Derived.Test.YtijkekkjiboomaaGreatDoorPart9
import Derived.Test.YtijkekkjiboomaaGreatDoorPart5
import Derived.Test.YtijkekkjiboomaaGreatDoorPart7
namespace Go.Proofs.YtijkekkjiboomaaGreatDoor
open Go.ChangeShapes Go.WideShapes Go.ChangeAt Go.RowKit Go.Joins
set_option linter.unusedVariables false

theorem trod_f64 {H : Type} {enc : TypeId × Value → H} {P : Program} {w : World} {base : Nat} {spare : Nat → Bool} {held : Bool} {fuel : Nat} {t : TypeId} {cs : List Value} {x : DataW H × List MemPlace} (ht : P.underlying t = some (.float .f64)) (h : DataW.trod enc P w base spare held fuel t cs = some x) :
    ∃ b : Nat, cs = [.float .f64 b] ∧ b < 18446744073709551616 := by
  cases fuel with
  | zero => simp [DataW.trod] at h
  | succ n =>
    unfold DataW.trod at h
    rw [ht] at h
    match cs, h with
    | [.float k b], h =>
      simp only at h
      split at h
      · rename_i hc
        obtain ⟨e, hw⟩ := hc
        subst e
        exact ⟨b, rfl, of_decide_eq_true hw⟩
      · cases h

/-- A value that fits. -/
structure V.fits (v : V) : Prop where
  k0 : -9223372036854775808 ≤ v.k
  k1 : v.k < 9223372036854775808
  n0 : -9223372036854775808 ≤ v.n
  n1 : v.n < 9223372036854775808
  f1 : v.f < 18446744073709551616
  s1 : v.s.size ≤ 9223372036854775807

set_option maxRecDepth 100000 in
theorem cellsVal : Tryz.prog.cellsOf 43 = 4 := by kernel_rfl

set_option maxRecDepth 100000 in
theorem isVal_of {H : Type} {enc : TypeId × Value → H} {w : World} {base b0 : Nat} {spare : Nat → Bool} {held : Bool} {v : Value} {d : DataW H} {p : List MemPlace}
    (hv : Value.okWide Tryz.prog w .any b0 43 v) (h : DataW.Trod enc Tryz.prog w base spare held 43 v d p) : ∃ x : V, v = x.val ∧ x.fits := by
  obtain ⟨v0, v1, v2, v3, y0, y1, y2, y3, m, rfl, rfl, rfl, h0, h1, h2, h3⟩ := open_agg4 Tryz.underlying43 (by kernel_rfl) cellsVal hv h
  obtain ⟨k, e0, _, w0⟩ := DataW.trod_int Tryz.underlying3 h0
  obtain ⟨n, e1, _, w1⟩ := DataW.trod_int Tryz.underlying2 h1
  obtain ⟨f, e2, w2⟩ := trod_f64 Tryz.underlying41 h2
  obtain ⟨s, e3, _, w3⟩ := DataW.trod_string Tryz.underlying9 h3
  simp at e0 e1 e2 e3
  subst e0 e1 e2 e3
  simp [Lit.wf, IntKind.min, IntKind.max, IntKind.signed, IntKind.bits] at w0 w1
  exact ⟨⟨k, n, f, s⟩, rfl, ⟨by simp only; omega, by simp only; omega, by simp only; omega, by simp only; omega, w2, by simp only [maxLen] at w3; simp only; omega⟩⟩
end Go.Proofs.YtijkekkjiboomaaGreatDoor

/- A value's text and bytes, as lists: unlike values, unlike ones. It speaks of no program. -/
namespace Go.Proofs.YtijkekkjiboomaaGreatDoor
open Go.RowKit
set_option linter.unusedVariables false
set_option linter.unusedSimpArgs false
set_option maxRecDepth 10000

/-- The document's number, digit by digit, is the library's. -/
theorem decGo_eq (f : Nat) (N : Nat) (out : ByteArray) (h : N < 10 ^ f) (hf : 0 < f) : decGo f N out = ⟨(Go.Lib.decDigits N).toArray⟩ ++ out := by
  induction f generalizing N out with
  | zero => omega
  | succ f ih =>
    unfold decGo
    rw [Go.Lib.decDigits]
    by_cases hz : N / 10 = 0
    · have h10 : N < 10 := by omega
      rw [if_pos hz, dif_pos h10, Nat.mod_eq_of_lt h10]
    · have h10 : ¬ N < 10 := by omega
      have hf' : 0 < f := by
        cases f with
        | zero => simp at h; omega
        | succ f => omega
      rw [if_neg hz, dif_neg h10, ih (N / 10) _ (by rw [Nat.pow_succ] at h; omega) hf', ← ByteArray.append_assoc]
      congr 1
theorem refDec_itoa (n : Int) (h0 : -9223372036854775808 ≤ n) (h1 : n < 9223372036854775808) : refDec n = ⟨(Go.Lib.itoa n).toArray⟩ := by
  have hb : n.natAbs < 10 ^ 20 := by
    have : (10 : Nat) ^ 20 = 100000000000000000000 := by decide
    omega
  unfold refDec Go.Lib.itoa
  rw [decGo_eq 20 _ _ hb (by decide)]
  by_cases h : n < 0
  · rw [if_pos h, if_pos h]
    apply ByteArray.ext; simp
  · rw [if_neg h, if_neg h, show n.natAbs = n.toNat from by omega]
    apply ByteArray.ext; simp

theorem hexDigits_inj {a b : Nat} (ha : a < 16) (hb : b < 16) (h : hexDigits.getD a 0 = hexDigits.getD b 0) : a = b := by
  have : ∀ a b : Fin 16, hexDigits.getD a.1 0 = hexDigits.getD b.1 0 → a = b := by decide +kernel
  have := this ⟨a, ha⟩ ⟨b, hb⟩ h
  exact congrArg Fin.val this
theorem hexGo_inj {n m : Nat} (hn : n < 18446744073709551616) (hm : m < 18446744073709551616) (h : hexGo n 16 = hexGo m 16) : n = m := by
  have key : ∀ j, j < 16 → n / 16 ^ j % 16 = m / 16 ^ j % 16 := by
    intro j hj
    have e := congrArg (fun l => l[15 - j]?) h
    simp only [hexGo, List.getElem?_map, List.getElem?_range (show 15 - j < 16 by omega), Option.map_some, Option.some.injEq] at e
    rw [show 15 - (15 - j) = j from by omega] at e
    exact hexDigits_inj (Nat.mod_lt _ (by decide)) (Nat.mod_lt _ (by decide)) e
  have := mod_pows (b := 16) 16 key
  rw [show (16 : Nat) ^ 16 = 18446744073709551616 from by decide, Nat.mod_eq_of_lt hn, Nat.mod_eq_of_lt hm] at this
  exact this

/-- A value's text, as bytes. -/
def textL (v : V) : List UInt8 :=
  if v.k = 0 then [110, 117, 108, 108] else if v.k = 1 then (if v.n = 1 then [116, 114, 117, 101] else [102, 97, 108, 115, 101]) else if v.k = 2 then Go.Lib.itoa v.n
  else if v.k = 3 then 102 :: hexGo (refBits v.f) 16 else if v.k = 4 then 34 :: quoteGo v.s.data.toList ++ [34] else [109, 97, 112]
/-- Taken, field by field. -/
structure V.taken (v : V) : Prop where
  fit : v.fits
  kind : v.k = 0 ∨ v.k = 1 ∨ v.k = 2 ∨ v.k = 3 ∨ v.k = 4 ∨ v.k = 5
  n : v.k ≠ 1 → v.k ≠ 2 → v.n = 0
  bool : v.k = 1 → v.n = 0 ∨ v.n = 1
  f : v.k ≠ 3 → v.f = 0
  s : v.k ≠ 4 → v.s = ⟨#[]⟩

theorem order_bits {a b : Nat} (ha : a < 18446744073709551616) (hb : b < 18446744073709551616) : refOrder a = refOrder b ↔ refBits a = refBits b := by
  have lim : ∀ f, f < 18446744073709551616 → isNaN f = false → (f < 9223372036854775808 → f ≤ 9218868437227405312) := by
    intro f hf hn hs
    have : ¬ fI < rung f := of_decide_eq_false hn
    have hr : rung f = f := Nat.mod_eq_of_lt hs
    rw [hr] at this
    exact Nat.le_of_not_lt this
  have la := lim a ha
  have lb := lim b hb
  unfold refOrder refBits
  have hI : nanBits = 9221120237041090560 := rfl
  have ka : isNaN a = false → a ≠ nanBits := fun h e => by rw [e] at h; exact absurd h (by decide)
  have kb : isNaN b = false → b ≠ nanBits := fun h e => by rw [e] at h; exact absurd h (by decide)
  cases na : isNaN a <;> cases nb : isNaN b <;> simp only [na, nb, if_true, Bool.false_eq_true, if_false, true_implies, Bool.true_eq_false, false_implies] at *
  · split <;> split <;> omega
  · have hne : a ≠ nanBits := ka
    constructor
    · intro h; split at h <;> omega
    · intro h; exact absurd h hne
  · have hne : b ≠ nanBits := kb
    constructor
    · intro h; split at h <;> omega
    · intro h; exact absurd h.symm hne
theorem cmp_zero (a b : V) : refCmp a b = 0 ↔ a.k = b.k ∧ a.n = b.n ∧ refOrder a.f = refOrder b.f ∧ a.s = b.s := by
  rw [refCmp_cases]
  have hl : lexI a.s.toList b.s.toList = 0 ↔ a.s = b.s := by
    have h := (lexI_spec a.s.toList b.s.toList).2.1
    constructor
    · intro e
      rw [decide_eq_true e] at h
      have := beq_iff_eq.1 h
      rw [ByteArray.toList_eq, ByteArray.toList_eq] at this
      exact ByteArray.ext (Array.ext' this)
    · intro e
      rw [e] at h ⊢
      have h2 : (b.s.toList == b.s.toList) = true := by simp
      rw [h2] at h
      exact of_decide_eq_true h.symm
  generalize lexI a.s.toList b.s.toList = l at *
  constructor
  · intro h
    repeat' (split at h)
    all_goals first | omega | exact ⟨by omega, by omega, by omega, hl.1 h⟩
  · rintro ⟨h1, h2, h3, h4⟩
    rw [if_neg (by omega), if_neg (by omega), if_neg (by omega), if_neg (by omega), if_neg (by omega), if_neg (by omega)]
    exact hl.2 h4
end Go.Proofs.YtijkekkjiboomaaGreatDoor

/- Views: runs, their units, their clean form (no Go in it). -/
namespace Go.Proofs.YtijkekkjiboomaaGreatDoor
open Go.RowKit
set_option linter.unusedVariables false
set_option linter.unusedSimpArgs false

/-- A run. -/
structure Rn where
  tx : ByteArray
  em : Bool
  v : V
  ml : List Mk
/-- A unit: a rune, or an embed. -/
structure Un where
  em : Bool
  c : Nat
  v : V
  ml : List Mk

def vz : V := ⟨0, 0, 0, ⟨#[]⟩⟩
abbrev Rn.rs (r : Rn) : List Nat := rsOf r.tx.data.toList
def Rn.len (r : Rn) : Nat := if r.em = true then 1 else r.rs.length
def Rn.us (r : Rn) : List Un := if r.em = true then [⟨true, 0, r.v, r.ml⟩] else r.rs.map fun c => ⟨false, c, vz, r.ml⟩
def unitsV (l : List Rn) : List Un := l.flatMap Rn.us
def lenL (l : List Rn) : Nat := (l.map Rn.len).sum
theorem us_len (r : Rn) : r.us.length = r.len := by unfold Rn.us Rn.len; split <;> simp
theorem unitsV_nil : unitsV [] = [] := rfl
theorem unitsV_cons (r : Rn) (l : List Rn) : unitsV (r :: l) = r.us ++ unitsV l := by simp [unitsV]
theorem unitsV_append (a b : List Rn) : unitsV (a ++ b) = unitsV a ++ unitsV b := by simp [unitsV]
theorem unitsV_one (r : Rn) : unitsV [r] = r.us := by simp [unitsV]
theorem lenL_cons (r : Rn) (l : List Rn) : lenL (r :: l) = r.len + lenL l := by simp [lenL]
theorem lenL_append (a b : List Rn) : lenL (a ++ b) = lenL a + lenL b := by simp [lenL]
theorem unitsV_len (l : List Rn) : (unitsV l).length = lenL l := by
  induction l with
  | nil => rfl
  | cons r l ih => rw [unitsV_cons, List.length_append, us_len, ih, lenL_cons]
def mkN (m : Mk) : Mk := ⟨m.ky, m.vk, m.vn, refBits m.vf, m.vs⟩
def Rn.nrm (r : Rn) : Rn := ⟨r.tx, r.em, vClean r.v, r.ml.map mkN⟩
/-- A run that is looked at: its text is right, and an embed's is empty. -/
structure Rn.Ok (r : Rn) : Prop where
  e : r.em = true → r.tx = ⟨#[]⟩
  t : r.em = false → r.v = vz ∧ (runesOf r.tx.data.toList).isSome = true
/-- Its floats are doubles. -/
structure Rn.Dbl (r : Rn) : Prop where
  v : r.v.f < 18446744073709551616
  m : ∀ m ∈ r.ml, m.vf < 18446744073709551616
theorem refBits_dbl (f : Nat) (h : f < 18446744073709551616) : refBits f < 18446744073709551616 := by
  unfold refBits nanBits; split <;> omega
theorem nan_bits : isNaN nanBits = true := by decide
theorem refBits_idem (f : Nat) : refBits (refBits f) = refBits f := by
  unfold refBits
  cases h : isNaN f with
  | true => simp only [if_true]; rw [if_pos nan_bits]
  | false => simp [h]
theorem refBits_zero : refBits 0 = 0 := by decide
theorem vClean_vz : vClean vz = vz := by unfold vClean vz; rw [refBits_zero]
theorem vClean_idem (v : V) : vClean (vClean v) = vClean v := by unfold vClean; rw [refBits_idem]
theorem mkN_idem (m : Mk) : mkN (mkN m) = mkN m := by unfold mkN; rw [refBits_idem]
theorem map_mkN_idem (l : List Mk) : (l.map mkN).map mkN = l.map mkN := by
  rw [List.map_map]; exact List.map_congr_left fun m _ => mkN_idem m
theorem nrm_idem (r : Rn) : r.nrm.nrm = r.nrm := by unfold Rn.nrm; simp only [vClean_idem, map_mkN_idem]
theorem map_nrm_idem (l : List Rn) : (l.map Rn.nrm).map Rn.nrm = l.map Rn.nrm := by
  rw [List.map_map]; exact List.map_congr_left fun m _ => nrm_idem m
theorem Rn.Ok.nrm {r : Rn} (h : r.Ok) : r.nrm.Ok := ⟨h.e, fun e => ⟨by show vClean r.v = vz; rw [(h.t e).1, vClean_vz], (h.t e).2⟩⟩
theorem Rn.Dbl.nrm {r : Rn} (h : r.Dbl) : r.nrm.Dbl := ⟨refBits_dbl _ h.v, fun m hm => by
  obtain ⟨m', h1, rfl⟩ := List.mem_map.1 hm
  exact refBits_dbl _ (h.m _ h1)⟩
theorem nrm_len (r : Rn) : r.nrm.len = r.len := rfl
/-- Two values stand at one place just where they are one, cleaned. -/
theorem refCmp_clean (a b : V) (ha : a.f < 18446744073709551616) (hb : b.f < 18446744073709551616) : refCmp a b = 0 ↔ vClean a = vClean b := by
  rw [cmp_zero, order_bits ha hb]
  unfold vClean
  constructor
  · rintro ⟨h1, h2, h3, h4⟩; rw [h1, h2, h3, h4]
  · intro h; simp only [V.mk.injEq] at h; exact h
theorem bytes_toList {a b : ByteArray} : (a.toList == b.toList) = true ↔ a = b := by
  rw [beq_iff_eq]
  constructor
  · intro h
    rw [ByteArray.toList_eq, ByteArray.toList_eq] at h
    exact ByteArray.ext (Array.ext' h)
  · intro h; rw [h]
theorem sameK_iff (a b : Mk) (ha : a.vf < 18446744073709551616) (hb : b.vf < 18446744073709551616) : sameK a b = true ↔ mkN a = mkN b := by
  unfold sameK
  rw [Bool.and_eq_true, bytes_toList, beq_iff_eq, refCmp_clean a.v b.v ha hb]
  unfold vClean mkN
  simp only [V.mk.injEq, Mk.mk.injEq]
theorem sameL_iff : ∀ (a b : List Mk), (∀ m ∈ a, m.vf < 18446744073709551616) → (∀ m ∈ b, m.vf < 18446744073709551616) → (sameL a b = true ↔ a.map mkN = b.map mkN)
  | [], [], _, _ => by simp [sameL]
  | [], _ :: _, _, _ => by simp [sameL]
  | _ :: _, [], _, _ => by simp [sameL]
  | x :: a, y :: b, ha, hb => by
    have ih := sameL_iff a b (fun m h => ha m (List.mem_cons_of_mem _ h)) (fun m h => hb m (List.mem_cons_of_mem _ h))
    have hk := sameK_iff x y (ha x (by simp)) (hb y (by simp))
    have e : sameL (x :: a) (y :: b) = (sameK x y && sameL a b) := by
      unfold sameL
      simp only [List.length_cons, List.zip_cons_cons, List.all_cons, Nat.add_right_cancel_iff]
      cases sameK x y <;> cases decide (a.length = b.length) <;> simp
    rw [e, Bool.and_eq_true, hk, ih]
    simp
/-- May b's runes stand behind a's? -/
def canJ (a b : Rn) : Bool := !a.em && !b.em && sameL a.ml b.ml
/-- No text is empty, and no two that stand side by side may be joined. -/
structure Cf (l : List Rn) : Prop where
  full : ∀ r ∈ l, 0 < r.len
  apart : ∀ a b pre post, l = pre ++ a :: b :: post → ¬ (a.em = false ∧ b.em = false ∧ a.ml = b.ml)
theorem Cf.tail {r : Rn} {l : List Rn} (h : Cf (r :: l)) : Cf l := ⟨fun x hx => h.full x (List.mem_cons_of_mem _ hx), fun a b pre post e => h.apart a b (r :: pre) post (by rw [e]; rfl)⟩
theorem Cf.nil : Cf [] := ⟨fun r h => (by cases h), fun a b pre post e => (by cases pre <;> cases e)⟩
theorem Cf.snoc {l : List Rn} {r : Rn} (h : Cf l) (hr : 0 < r.len) (hj : ∀ a pre, l = pre ++ [a] → ¬ (a.em = false ∧ r.em = false ∧ a.ml = r.ml)) : Cf (l ++ [r]) := by
  refine ⟨fun x hx => ?_, fun a b pre post e => ?_⟩
  · rcases List.mem_append.1 hx with hx | hx
    · exact h.full x hx
    · rw [List.mem_singleton.1 hx]; exact hr
  · rcases List.eq_nil_or_concat post with rfl | ⟨post', z, rfl⟩
    · have e2 : l ++ [r] = (pre ++ [a]) ++ [b] := by rw [e]; simp
      obtain ⟨e3, e4⟩ := List.append_inj' e2 rfl
      cases e4
      exact hj a pre e3
    · have e2 : l ++ [r] = (pre ++ a :: b :: post') ++ [z] := by rw [e]; simp
      obtain ⟨e3, e4⟩ := List.append_inj' e2 rfl
      exact h.apart a b pre post' e3
theorem Cf.init {l : List Rn} {r : Rn} (h : Cf (l ++ [r])) : Cf l := ⟨fun x hx => h.full x (List.mem_append_left _ hx), fun a b pre post e => h.apart a b pre (post ++ [r]) (by rw [e]; simp)⟩
theorem Cf.last {l : List Rn} {a r : Rn} (h : Cf (l ++ [a] ++ [r])) : ¬ (a.em = false ∧ r.em = false ∧ a.ml = r.ml) := h.apart a r l [] (by simp)
theorem Rn.Ok.enc {r : Rn} (h : r.Ok) (he : r.em = false) : r.tx.data.toList = encAll r.rs := by
  obtain ⟨rs, hrs⟩ := Option.isSome_iff_exists.1 (h.t he).2
  have h2 := (enc_runesOf rs _ hrs).2
  have h3 : r.rs = rs := rsOf_some hrs
  rw [h3, h2]
theorem Rn.Ok.ext {a b : Rn} (ha : a.Ok) (hb : b.Ok) (h1 : a.em = false) (h2 : b.em = false) (hr : a.rs = b.rs) (hm : a.ml = b.ml) : a = b := by
  obtain ⟨atx, ae, av, am⟩ := a
  obtain ⟨btx, be, bv, bm⟩ := b
  have e1 := ha.enc h1
  have e2 := hb.enc h2
  have t1 := (ha.t h1).1
  have t2 := (hb.t h2).1
  simp only at h1 h2 hm e1 e2 t1 t2
  subst h1 h2 hm t1 t2
  rw [hr, ← e2] at e1
  have : atx = btx := ByteArray.ext (Array.ext' e1)
  rw [this]
theorem map_inj_prefix {m : List Mk} : ∀ (x y : List Nat) (s t : List Un), x.map (fun c => (⟨false, c, vz, m⟩ : Un)) ++ s = y.map (fun c => ⟨false, c, vz, m⟩) ++ t → (∀ u, s.head? = some u → ¬ (u.em = false ∧ u.ml = m)) → (∀ u, t.head? = some u → ¬ (u.em = false ∧ u.ml = m)) → x = y ∧ s = t
  | [], [], s, t, h, _, _ => ⟨rfl, by simpa using h⟩
  | [], c :: y, s, t, h, hs, _ => by
    simp only [List.map_nil, List.nil_append, List.map_cons, List.cons_append] at h
    subst h
    exact absurd ⟨rfl, rfl⟩ (hs _ rfl)
  | c :: x, [], s, t, h, _, ht => by
    simp only [List.map_nil, List.nil_append, List.map_cons, List.cons_append] at h
    subst h
    exact absurd ⟨rfl, rfl⟩ (ht _ rfl)
  | c :: x, d :: y, s, t, h, hs, ht => by
    simp only [List.map_cons, List.cons_append, List.cons.injEq, Un.mk.injEq, true_and, and_true] at h
    obtain ⟨h1, h2⟩ := map_inj_prefix x y s t h.2 hs ht
    exact ⟨by rw [h.1, h1], h2⟩
theorem us_head {r : Rn} (h : 0 < r.len) : ∃ u t, r.us = u :: t ∧ u.em = r.em ∧ u.ml = r.ml := by
  unfold Rn.us
  by_cases he : r.em = true
  · rw [if_pos he]; exact ⟨_, _, rfl, he.symm, rfl⟩
  · rw [if_neg he]
    unfold Rn.len at h
    rw [if_neg he] at h
    cases hr : r.rs with
    | nil => rw [hr] at h; simp at h
    | cons c t => exact ⟨_, _, rfl, by simpa using he, rfl⟩
theorem Cf.head {r : Rn} {l : List Rn} (h : Cf (r :: l)) (he : r.em = false) : ∀ u, (unitsV l).head? = some u → ¬ (u.em = false ∧ u.ml = r.ml) := by
  intro u hu
  cases l with
  | nil => simp [unitsV] at hu
  | cons b l =>
    obtain ⟨u', t, e, e1, e2⟩ := us_head (h.full b (by simp))
    rw [unitsV_cons, e] at hu
    simp only [List.cons_append, List.head?_cons, Option.some.injEq] at hu
    subst hu
    rw [e1, e2]
    intro q
    exact h.apart r b [] l rfl ⟨he, q.1, q.2.symm⟩
/-- A list's clean form is told by its units. -/
theorem Cf.eq : ∀ {A B : List Rn}, Cf A → Cf B → (∀ r ∈ A, r.Ok) → (∀ r ∈ B, r.Ok) → unitsV A = unitsV B → A = B
  | [], [], _, _, _, _, _ => rfl
  | [], b :: B, _, hB, _, _, h => by
    obtain ⟨u, t, e, -, -⟩ := us_head (hB.full b (by simp))
    rw [unitsV_cons, e] at h
    simp [unitsV] at h
  | a :: A, [], hA, _, _, _, h => by
    obtain ⟨u, t, e, -, -⟩ := us_head (hA.full a (by simp))
    rw [unitsV_cons, e] at h
    simp [unitsV] at h
  | a :: A, b :: B, hA, hB, oA, oB, h => by
    rw [unitsV_cons, unitsV_cons] at h
    have oa := oA a (by simp)
    have ob := oB b (by simp)
    obtain ⟨u, t, e, e1, e2⟩ := us_head (hA.full a (by simp))
    obtain ⟨u', t', e', e1', e2'⟩ := us_head (hB.full b (by simp))
    have huu : u = u' := by
      rw [e, e'] at h
      simp only [List.cons_append, List.cons.injEq] at h
      exact h.1
    subst huu
    have hem : a.em = b.em := e1.symm.trans e1'
    have hmk : a.ml = b.ml := e2.symm.trans e2'
    have key : a = b ∧ unitsV A = unitsV B := by
      by_cases he : a.em = true
      · have he' : b.em = true := by rw [← hem]; exact he
        unfold Rn.us at h
        rw [if_pos he, if_pos he'] at h
        simp only [List.cons_append, List.nil_append, List.cons.injEq, Un.mk.injEq, true_and] at h
        refine ⟨?_, h.2⟩
        obtain ⟨atx, ae, av, am⟩ := a
        obtain ⟨btx, be, bv, bm⟩ := b
        have t1 := oa.e he
        have t2 := ob.e he'
        simp only at he he' h hem t1 t2
        rw [t1, t2, h.1.1, h.1.2, hem]
      · have he1 : a.em = false := by simpa using he
        have he2 : b.em = false := by rw [← hem]; exact he1
        have hsa := hA.head he1
        have hsb := hB.head he2
        unfold Rn.us at h
        rw [if_neg he, if_neg (by rw [he2]; simp), ← hmk] at h
        rw [← hmk] at hsb
        obtain ⟨h1, h2⟩ := map_inj_prefix _ _ _ _ h hsa hsb
        exact ⟨oa.ext ob he1 he2 h1 hmk, h2⟩
    rw [key.1, Cf.eq hA.tail hB.tail (fun r hr => oA r (List.mem_cons_of_mem _ hr)) (fun r hr => oB r (List.mem_cons_of_mem _ hr)) key.2]
end Go.Proofs.YtijkekkjiboomaaGreatDoor
