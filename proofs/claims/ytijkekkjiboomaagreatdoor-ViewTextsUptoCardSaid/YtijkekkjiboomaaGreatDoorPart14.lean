/- The contract of utf.Len16. -/
import Derived.Test.YtijkekkjiboomaaGreatDoorPart12
import Derived.Test.YtijkekkjiboomaaGreatDoorPart7
import Derived.Shelf.LaysM
import Derived.Shelf.Strconv.Clone
import Derived.Test.YtijkekkjiboomaaGreatDoorProg
import Derived.Test.YtijkekkjiboomaaGreatDoorPart13
namespace Go.Proofs.YtijkekkjiboomaaGreatDoor
open Go.RowKit Go.Shelf
set_option linter.unusedVariables false
set_option maxRecDepth 100000
attribute [local go_sem] Oper.semAt_some

def sumP (f : Nat → Nat) (l : List (Nat × Nat)) : Nat := (l.map fun p => f p.2).sum
theorem sumP_snoc (f : Nat → Nat) (l : List (Nat × Nat)) (x : Nat × Nat) : sumP f (l ++ [x]) = sumP f l + f x.2 := by simp [sumP]
theorem sumP_enum (f : Nat → Nat) (k : Nat) (l : List Nat) : sumP f (enumR k l) = (l.map f).sum := by
  induction l generalizing k with
  | nil => rfl
  | cons r l ih => simp only [enumR, sumP, List.map_cons, List.sum_cons]; rw [← ih (k + 1)]; rfl
theorem sumP_le (f : Nat → Nat) (hf : ∀ r, f r ≤ 2) (l : List (Nat × Nat)) : sumP f l ≤ 2 * l.length := by
  induction l with
  | nil => simp [sumP]
  | cons x l ih => have := hf x.2; simp only [sumP, List.map_cons, List.sum_cons, List.length_cons] at ih ⊢; omega

theorem boxed_drew {W : World} {B : Nat} {t : TypeId} {v : Value} (h : Boxed W B t v) : Boxed W.drew B t v := h
/-- A round that adds to a box, and draws its order. -/
theorem box_add {W w : World} {B T U N : Nat} (HX : Boxed W B 3 (.int .i64 (T : Int))) (HP : N = T + U) (h : T + U ≤ 9223372036854775807) (hB : Below w.heap.size w W) (hb : w.heap.size ≤ B) :
    KeepsOthers W (W.setCell ⟨B, 0, none⟩ (.int .i64 (IntKind.i64.wrap ((T : Int) + (U : Int))))).drew ∧ KeepsWalks W (W.setCell ⟨B, 0, none⟩ (.int .i64 (IntKind.i64.wrap ((T : Int) + (U : Int))))).drew ∧
      Boxed (W.setCell ⟨B, 0, none⟩ (.int .i64 (IntKind.i64.wrap ((T : Int) + (U : Int))))).drew B 3 (.int .i64 (N : Int)) ∧ Below w.heap.size w (W.setCell ⟨B, 0, none⟩ (.int .i64 (IntKind.i64.wrap ((T : Int) + (U : Int))))).drew := by
  have hk : KeepsOthers W (W.setCell ⟨B, 0, none⟩ (.int .i64 (IntKind.i64.wrap ((T : Int) + (U : Int))))).drew := (KeepsOthers.setCell _ _ _).trans (KeepsOthers.drew _)
  refine ⟨hk, walks_of hk, ?_, (hB.setCell (p := ⟨B, 0, none⟩) hb _).drew⟩
  rw [IntWalk.i64_in _ (by omega), HP]
  have := HX.set (.int .i64 ((T : Int) + (U : Int)))
  rw [show ((T : Int) + (U : Int)) = ((T + U : Nat) : Int) from by omega] at this ⊢
  exact this

end Go.Proofs.YtijkekkjiboomaaGreatDoor

/- The contract of utf.place at its two uses: its words. -/
namespace Go.Proofs.YtijkekkjiboomaaGreatDoor
open Go.RowKit Go.Shelf
set_option linter.unusedVariables false
set_option maxRecDepth 100000
attribute [local go_sem] Oper.semAt_some

def one1 (_ : Nat) : Nat := 1
def ssum (f : Nat → Nat) (l : List Nat) : Nat := (l.map f).sum
/-- Where the count stops: behind k runes, the first place that is n or above, or at the end. -/
def StopAt (f : Nat → Nat) (n : Int) (rs : List Nat) (k : Nat) : Prop := k ≤ rs.length ∧ (∀ j, j < k → (ssum f (rs.take j) : Int) < n) ∧ (k = rs.length ∨ n ≤ (ssum f (rs.take k) : Int))
theorem enumR_take (k m : Nat) (l : List Nat) : (enumR k l).take m = enumR k (l.take m) := by
  induction l generalizing k m with
  | nil => simp [enumR]
  | cons r l ih => cases m with
    | zero => simp [enumR]
    | succ m => simp [enumR, ih]
theorem sumP_take (f : Nat → Nat) (m : Nat) (l : List Nat) : sumP f ((enumR 0 l).take m) = ssum f (l.take m) := by
  rw [enumR_take, sumP_enum]; rfl
/-- All places ahead are below n. -/
def Under (f : Nat → Nat) (n : Int) (pre : List (Nat × Nat)) : Prop := ∀ j, j < pre.length → (sumP f (pre.take j) : Int) < n
theorem under_snoc {f : Nat → Nat} {n : Int} {pre : List (Nat × Nat)} {x : Nat × Nat} (h : Under f n pre) (hx : (sumP f pre : Int) < n) : Under f n (pre ++ [x]) := by
  intro j hj
  rw [List.length_append, List.length_singleton] at hj
  by_cases e : j < pre.length
  · rw [List.take_append_of_le_length (by omega)]; exact h j e
  · rw [show j = pre.length from by omega, List.take_left]; exact hx
theorem stop_end {f : Nat → Nat} {n : Int} {rs : List Nat} (h : Under f n (enumR 0 rs)) : StopAt f n rs rs.length := by
  refine ⟨Nat.le_refl _, fun j hj => ?_, .inl rfl⟩
  have := h j (by rw [enumR_len]; exact hj)
  rwa [sumP_take] at this
theorem stop_mid {f : Nat → Nat} {n : Int} {rs : List Nat} {pre : List (Nat × Nat)} {x : Nat × Nat} (hp : pre ++ [x] <+: enumR 0 rs) (h : Under f n pre) (hn : n ≤ (sumP f pre : Int)) : StopAt f n rs pre.length ∧ pre = (enumR 0 rs).take pre.length := by
  have hp' : pre <+: enumR 0 rs := (List.prefix_append _ _).trans hp
  have ht : pre = (enumR 0 rs).take pre.length := List.prefix_iff_eq_take.1 hp'
  have hl := hp.length_le
  rw [enumR_len, List.length_append] at hl
  refine ⟨⟨by omega, fun j hj => ?_, .inr ?_⟩, ht⟩
  · have := h j hj
    rw [ht, List.take_take, Nat.min_eq_left (by omega), sumP_take] at this
    exact this
  · rw [ht, sumP_take] at hn; exact hn
/-- What place answers. -/
def PlacePost (f g : Nat → Nat) (n : Int) (l : List UInt8) (w : World) (e : Ending) (w' : World) : Prop :=
  Touch (fun _ => False) w w' ∧ ((runesOf l = none ∧ e = .returned (.tuple #[.int .i64 0, .int .i64 31])) ∨
    ∃ rs k, runesOf l = some rs ∧ StopAt f n rs k ∧ ((((ssum f (rs.take k) : Int) = n) ∧ e = .returned (.tuple #[.int .i64 (ssum g (rs.take k) : Int), .int .i64 0])) ∨ (((ssum f (rs.take k) : Int) ≠ n) ∧ e = .returned (.tuple #[.int .i64 0, .int .i64 30]))))
theorem one1_bd (r : Nat) : one1 r ≤ 2 := by unfold one1; omega
/-- A round that leaves the loop: the place is there, or passed. -/
def PlaceX (f g : Nat → Nat) (n : Int) (B0 B1 : Nat) (w : World) (c : Code) (xs : List (Nat × Nat)) (W : World) : Prop :=
  (c = .exit 0 ∧ ∃ pre x, xs = pre ++ [x] ∧ Under f n pre ∧ n ≤ (sumP f pre : Int) ∧ Boxed W B0 3 (.int .i64 (sumP f pre : Int)) ∧ Boxed W (B0 + 1) 3 (.int .i64 (sumP g pre : Int))) ∧ (Boxed W B1 3 (.int .i64 n) ∧ Below w.heap.size w W)
theorem placeX_own (f g : Nat → Nat) (n : Int) (B0 B1 N : Nat) (w : World) (hN : w.heap.size ≤ N) (c : Code) : OwnFrom N (PlaceX f g n B0 B1 w c) := by
  refine OwnFrom.and (fun xs A B row hs hg hr => ?_) (OwnFrom.and (Own.from (boxed_own _ _ (fun _ => .int .i64 n)) _) (ownFrom_below (Nat.le_refl _) hN))
  obtain ⟨hc, pre, x, he, hu, hn, h1, h2⟩ := hs
  have hr' : ∀ r, row = some r → ∃ o : Obj, A.heap[r]? = some o ∧ o.isCells = false := fun r e => (hr r e).2
  exact ⟨hc, pre, x, he, hu, hn, boxed_own _ _ (fun _ : Unit => _) () A B row h1 hg hr', boxed_own _ _ (fun _ : Unit => _) () A B row h2 hg hr'⟩
theorem boxed_keep {w w' : World} {B : Nat} {t : TypeId} {v : Value} (h : Boxed w B t v) (hT : Touch (fun _ => False) w w') : Boxed w' B t v := (hT.block B h.lt id).trans h
end Go.Proofs.YtijkekkjiboomaaGreatDoor

/- The library's contracts that value's functions call, laid at this program. -/
namespace Go.Proofs
open Go.Shelf
def Tryz.laysM316_ren : Go.Shelf.Ren := ⟨fun | 316 => 106 | n => n, fun | 9 => 9 | 3 => 3 | 4 => 4 | 37 => 58 | 0 => 0 | 127 => 88 | 5 => 5 | n => n, fun | n => n⟩
theorem Tryz.laysM316 : Go.Proofs.LaysM.n316 Tryz.prog Tryz.laysM316_ren := {
  mixed := by kernel_rfl
  f316 := Tryz.func106.trans (congrArg some (by kernel_rfl))
  t0 := Tryz.underlying0
  a0 := Tryz.isAgg0
  z0 := Tryz.sizeOf0
  v0 := Tryz.zeroValue0
  t3 := Tryz.underlying3
  a3 := Tryz.isAgg3
  z3 := Tryz.sizeOf3
  v3 := Tryz.zeroValue3
  t4 := Tryz.underlying4
  a4 := Tryz.isAgg4
  z4 := Tryz.sizeOf4
  v4 := Tryz.zeroValue4
  t9 := Tryz.underlying9
  a9 := Tryz.isAgg9
  z9 := Tryz.sizeOf9
  v9 := Tryz.zeroValue9
  t37 := Tryz.underlying58
  a37 := Tryz.isAgg58
  z37 := Tryz.sizeOf58
  v37 := Tryz.zeroValue58
  t127 := Tryz.underlying88
  a127 := Tryz.isAgg88
  z127 := Tryz.sizeOf88
  v127 := Tryz.zeroValue88
  t5 := Tryz.underlying5
  a5 := Tryz.isAgg5
  z5 := Tryz.sizeOf5
  v5 := Tryz.zeroValue5
  i0 := by kernel_rfl
  i3 := by kernel_rfl
  i4 := by kernel_rfl
  i5 := by kernel_rfl
  i9 := by kernel_rfl
  i37 := by kernel_rfl
  i127 := by kernel_rfl }
open Go.RowKit in
theorem Tryz.stringslite_Clone (s : ByteArray) (w : World) (hlim : s.size ≤ 281474976710656) :
    Calls Tryz.prog 106 #[.string s] w fun e w' => e = .returned (.string s) ∧ Below w.heap.size w w' := Any.stringslite_Clone Tryz.laysM316 s w hlim
end Go.Proofs

/- The contract of utf.Cut. -/
namespace Go.Proofs.YtijkekkjiboomaaGreatDoor
open Go.RowKit Go.Shelf
set_option linter.unusedVariables false
set_option maxRecDepth 100000
attribute [local go_sem] Oper.semAt_some

/-- Where a piece ends, and begins, in bytes, behind some rounds. -/
def cEnd (l : List (Nat × Nat)) : Int := l.foldl (fun a x => a + Go.Lib.runeLen (x.2 : Int)) 0
def cBeg (fr : Int) (l : List (Nat × Nat)) : Int := (l.foldl (fun (p : Int × Int) x => (if (x.1 : Int) < fr then p.2 + Go.Lib.runeLen (x.2 : Int) else p.1, p.2 + Go.Lib.runeLen (x.2 : Int))) (0, 0)).1
theorem cPair (fr : Int) (l : List (Nat × Nat)) : (l.foldl (fun (p : Int × Int) x => (if (x.1 : Int) < fr then p.2 + Go.Lib.runeLen (x.2 : Int) else p.1, p.2 + Go.Lib.runeLen (x.2 : Int))) (0, 0)) = (cBeg fr l, cEnd l) := by
  have h : ∀ (l : List (Nat × Nat)) (a b : Int), (l.foldl (fun (p : Int × Int) x => (if (x.1 : Int) < fr then p.2 + Go.Lib.runeLen (x.2 : Int) else p.1, p.2 + Go.Lib.runeLen (x.2 : Int))) (a, b)).2 = l.foldl (fun a x => a + Go.Lib.runeLen (x.2 : Int)) b := by
    intro l
    induction l with
    | nil => intro a b; rfl
    | cons x l ih => intro a b; simp only [List.foldl_cons]; rw [ih]
  exact Prod.ext rfl (h l 0 0)
theorem cEnd_snoc (l : List (Nat × Nat)) (x : Nat × Nat) : cEnd (l ++ [x]) = cEnd l + Go.Lib.runeLen (x.2 : Int) := by simp [cEnd]
theorem cBeg_snoc (fr : Int) (l : List (Nat × Nat)) (x : Nat × Nat) : cBeg fr (l ++ [x]) = if (x.1 : Int) < fr then cEnd l + Go.Lib.runeLen (x.2 : Int) else cBeg fr l := by
  have h := cPair fr l
  unfold cBeg at h ⊢
  rw [List.foldl_append, h]
  simp only [List.foldl_cons, List.foldl_nil]
theorem runeLen_bd (r : Int) : -1 ≤ Go.Lib.runeLen r ∧ Go.Lib.runeLen r ≤ 4 := by
  unfold Go.Lib.runeLen
  repeat' split
  all_goals omega
theorem snoc_induct {α : Type} {p : List α → Prop} (h0 : p []) (h1 : ∀ l x, p l → p (l ++ [x])) (l : List α) : p l := by
  have : ∀ n (l : List α), l.length = n → p l := by
    intro n
    induction n with
    | zero => intro l h; rw [List.eq_nil_of_length_eq_zero h]; exact h0
    | succ n ih =>
      intro l h
      have hne : l ≠ [] := by intro e; rw [e] at h; simp at h
      rw [← List.dropLast_concat_getLast hne]
      exact h1 _ _ (ih _ (by simp; omega))
  exact this _ l rfl
theorem cEnd_bd (l : List (Nat × Nat)) : -(l.length : Int) ≤ cEnd l ∧ cEnd l ≤ 4 * (l.length : Int) := by
  induction l using snoc_induct with
  | h0 => simp [cEnd]
  | h1 l x ih =>
    have := runeLen_bd (x.2 : Int)
    rw [cEnd_snoc, List.length_append, List.length_singleton]
    omega
theorem cEnd_enum (l : List Nat) (ok : ∀ r ∈ l, okRune r) : cEnd (enumR 0 l) = ((encAll l).length : Int) := by
  induction l using snoc_induct with
  | h0 => rfl
  | h1 l r ih =>
    rw [enumR_snoc, cEnd_snoc, ih (fun x hx => ok x (by simp [hx])), encAll_append, runeLen_enc r (ok r (by simp))]
    simp [encAll]
theorem cBeg_enum (fr : Int) (l : List Nat) (ok : ∀ r ∈ l, okRune r) : cBeg fr (enumR 0 l) = ((encAll (l.take fr.toNat)).length : Int) := by
  induction l using snoc_induct with
  | h0 => simp [cBeg, enumR, encAll]
  | h1 l r ih =>
    rw [enumR_snoc, cBeg_snoc, ih (fun x hx => ok x (by simp [hx])), cEnd_enum l (fun x hx => ok x (by simp [hx])), runeLen_enc r (ok r (by simp))]
    by_cases h : (l.length : Int) < fr
    · rw [if_pos h, List.take_of_length_le (by simp; omega), encAll_append]
      simp [encAll]
    · rw [if_neg h, List.take_append_of_le_length (by omega)]
/-- No round has been at to or above. -/
def Low (tt : Int) (pre : List (Nat × Nat)) : Prop := ∀ y ∈ pre, (y.1 : Int) < tt
theorem low_snoc {tt : Int} {pre : List (Nat × Nat)} {x : Nat × Nat} (h : Low tt pre) (hx : (x.1 : Int) < tt) : Low tt (pre ++ [x]) := by
  intro y hy
  rcases List.mem_append.1 hy with e | e
  · exact h y e
  · rw [List.mem_singleton] at e; rw [e]; exact hx
theorem enumR_mem (k : Nat) (l : List Nat) (j : Nat) (hj : j < l.length) : (k + j, l[j]) ∈ enumR k l := by
  induction l generalizing k j with
  | nil => simp at hj
  | cons r l ih =>
    cases j with
    | zero => simp [enumR]
    | succ j => have := ih (k + 1) j (by simp at hj; omega); simp only [enumR, List.mem_cons, List.getElem_cons_succ]; right; rw [show k + (j + 1) = k + 1 + j from by omega]; exact this
/-- What the loop has gone through when it ends. -/
theorem cut_end {tt : Int} {rs : List Nat} (h : Low tt (enumR 0 rs)) : rs.take tt.toNat = rs := by
  by_cases e : rs.length ≤ tt.toNat
  · exact List.take_of_length_le e
  · have := h _ (enumR_mem 0 rs (rs.length - 1) (by omega))
    simp only at this
    omega
theorem cut_mid {tt : Int} {rs : List Nat} {pre : List (Nat × Nat)} {x : Nat × Nat} (hp : pre ++ [x] <+: enumR 0 rs) (h : Low tt pre) (hx : tt ≤ (x.1 : Int)) : pre = enumR 0 (rs.take tt.toNat) := by
  have hp' : pre <+: enumR 0 rs := (List.prefix_append _ _).trans hp
  have ht : pre = (enumR 0 rs).take pre.length := List.prefix_iff_eq_take.1 hp'
  have hl := hp.length_le
  rw [enumR_len, List.length_append, List.length_singleton] at hl
  have ht2 : pre ++ [x] = (enumR 0 rs).take (pre.length + 1) := by have := List.prefix_iff_eq_take.1 hp; rwa [List.length_append, List.length_singleton] at this
  rw [enumR_take] at ht ht2
  have hx1 : x.1 = pre.length := by
    rw [List.take_succ_eq_append_getElem (show pre.length < rs.length by omega), enumR_snoc, ← ht] at ht2
    have := List.append_cancel_left ht2
    rw [List.cons.injEq] at this
    rw [this.1, List.length_take]; simp only; omega
  have hpl : pre.length = tt.toNat := by
    by_cases e : pre.length = 0
    · omega
    · have := h (pre.length - 1, (rs.take pre.length)[pre.length - 1]'(by rw [List.length_take]; omega)) (by
        have := enumR_mem 0 (rs.take pre.length) (pre.length - 1) (by rw [List.length_take]; omega)
        rw [← ht, Nat.zero_add] at this
        exact this)
      simp only at this
      omega
  rw [hpl] at ht
  exact ht
/-- The bytes between. -/
theorem cut_bytes (s : ByteArray) (fr tt : Int) : (encAll (((rsOf s.data.toList).take tt.toNat).take fr.toNat)).length ≤ (encAll ((rsOf s.data.toList).take tt.toNat)).length ∧ (encAll ((rsOf s.data.toList).take tt.toNat)).length ≤ s.size ∧
    s.extract (encAll (((rsOf s.data.toList).take tt.toNat).take fr.toNat)).length (encAll ((rsOf s.data.toList).take tt.toNat)).length = cutOf s.data.toList fr tt := by
  have hsl : s.data.toList.length = s.size := by simp
  generalize hrs : rsOf s.data.toList = rs
  have hs : runesOf s.data.toList = none ∧ rs = [] ∨ encAll rs = s.data.toList := by
    cases h : runesOf s.data.toList with
    | none => rw [rsOf_none h] at hrs; exact .inl ⟨rfl, hrs.symm⟩
    | some r => rw [rsOf_some h] at hrs; subst hrs; exact .inr (enc_runesOf r _ h).2
  have h1 : encAll (rs.take tt.toNat) = encAll ((rs.take tt.toNat).take fr.toNat) ++ encAll ((rs.take tt.toNat).drop fr.toNat) := by rw [← encAll_append, List.take_append_drop]
  have h2 : encAll rs = encAll (rs.take tt.toNat) ++ encAll (rs.drop tt.toNat) := by rw [← encAll_append, List.take_append_drop]
  have hle : (encAll (rs.take tt.toNat)).length ≤ s.size := by
    rcases hs with ⟨_, e⟩ | e
    · rw [e]; simp [encAll]
    · rw [← hsl, ← e, h2, List.length_append]; omega
  refine ⟨by rw [h1, List.length_append]; omega, hle, ?_⟩
  unfold cutOf cutR
  rw [hrs]
  apply bytes_ext
  rw [Go.Lib.extract_data, strOf_list]
  rcases hs with ⟨_, e⟩ | e
  · rw [e]; simp [encAll]
  · rw [← e, h2, h1]
    rw [List.append_assoc, List.drop_left, List.take_append_of_le_length (by rw [List.length_append]; omega)]
    rw [List.take_of_length_le (by rw [List.length_append]; omega)]

theorem clone_any (s : ByteArray) (hs : s.size ≤ 281474976710656) (w : World) : Calls Tryz.prog 92 #[.string s] w fun e w' => e = .returned (.string s) ∧ Touch (fun _ => False) w w' := by
  have HC : Hid (Calls Tryz.prog 106 #[.string s] w fun e w' => e = .returned (.string s) ∧ Below w.heap.size w w') := Tryz.stringslite_Clone s w hs
  go_enter Tryz.func92, Tryz.ntmps92
  go_wp2_with fail
  refine HC.out.mono ?_
  rintro e w1 ⟨rfl, hB⟩
  go_wp2_with fail
  go_ret
  exact ⟨rfl, Touch.ofBelow hB⟩
end Go.Proofs.YtijkekkjiboomaaGreatDoor
