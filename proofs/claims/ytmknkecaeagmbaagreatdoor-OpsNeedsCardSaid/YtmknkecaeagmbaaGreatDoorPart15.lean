/- The contract of value.Clean. -/
import Derived.Test.YtmknkecaeagmbaaGreatDoorPart9
import Derived.Test.YtmknkecaeagmbaaGreatDoorPart4
import Derived.Laws.Cover4
import Derived.Lib.Strings
namespace Go.Proofs.YtmknkecaeagmbaaGreatDoor
open Go.RowKit
set_option linter.unusedVariables false
set_option maxRecDepth 100000

/-- A NaN's bits are the one NaN's, whatever the kind. -/
def vClean (v : V) : V := ⟨v.k, v.n, refBits v.f, v.s⟩
set_option maxHeartbeats 400000 in
theorem v_clean (v : V) (w : World) : Calls Tryz.prog 45 #[v.val] w fun e w' => e = .returned (vClean v).val ∧ Touch (fun _ => False) w w' := by
  obtain ⟨k, n, f, s⟩ := v
  have HB : Hid (∀ w, Calls Tryz.prog 69 #[.float .f64 f] w fun e w' => e = .returned (.float .f64 (refBits f)) ∧ w' = w) := v_oneNaN f
  simp only [V.val, vClean] at *
  generalize refBits f = g at *
  have h2 := run_store_f64 Tryz.prog
  go_enter Tryz.func45, Tryz.ntmps45
  go_wp2_with fail
  refine (HB.out _).mono ?_
  rintro e w1 ⟨rfl, rfl⟩
  go_wp2_with fail
  refine bodyPost_ret (v := .agg #[.int .i64 k, .int .i64 n, .float .f64 g, .string s]) (by simp [results, Tryz.results45, go_sem]) rfl ⟨rfl, ?_⟩
  first
    | exact ((Touch.refl _ _).alloc _).alloc _
    | exact (((((((Touch.refl _ _).alloc _).alloc _).setCell _ _ (fun h => by simp only at h; omega)).setCell _ _ (fun h => by simp only at h; omega)).setCell _ _ (fun h => by simp only at h; omega)).setCell _ _ (fun h => by simp only at h; omega)).setCell _ _ (fun h => by simp only at h; omega)
end Go.Proofs.YtmknkecaeagmbaaGreatDoor

/- The contract of utf.Len16. -/
namespace Go.Proofs.YtmknkecaeagmbaaGreatDoor
open Go.RowKit Go.Shelf
set_option linter.unusedVariables false
set_option maxRecDepth 100000
attribute [local go_sem] Oper.semAt_some

def sumP (f : Nat → Nat) (l : List (Nat × Nat)) : Nat := (l.map fun p => f p.2).sum
theorem sumP_snoc (f : Nat → Nat) (l : List (Nat × Nat)) (x : Nat × Nat) : sumP f (l ++ [x]) = sumP f l + f x.2 := by simp [sumP]
theorem sumP_enum (f : Nat → Nat) (k : Nat) (l : List Nat) : sumP f (enumR k l) = (l.map f).sum := by
  induction l generalizing k with
  | nil => rfl
  | cons r l ih => simp only [enumR, sumP, List.map_cons, List.sum_cons]; rw [← ih (k + 1)]; rfl
theorem sumP_le (f : Nat → Nat) (hf : ∀ r, f r ≤ 2) (l : List (Nat × Nat)) : sumP f l ≤ 2 * l.length := by
  induction l with
  | nil => simp [sumP]
  | cons x l ih => have := hf x.2; simp only [sumP, List.map_cons, List.sum_cons, List.length_cons] at ih ⊢; omega

theorem boxed_drew {W : World} {B : Nat} {t : TypeId} {v : Value} (h : Boxed W B t v) : Boxed W.drew B t v := h
/-- A round that adds to a box, and draws its order. -/
theorem box_add {W w : World} {B T U N : Nat} (HX : Boxed W B 3 (.int .i64 (T : Int))) (HP : N = T + U) (h : T + U ≤ 9223372036854775807) (hB : Below w.heap.size w W) (hb : w.heap.size ≤ B) :
    KeepsOthers W (W.setCell ⟨B, 0, none⟩ (.int .i64 (IntKind.i64.wrap ((T : Int) + (U : Int))))).drew ∧ KeepsWalks W (W.setCell ⟨B, 0, none⟩ (.int .i64 (IntKind.i64.wrap ((T : Int) + (U : Int))))).drew ∧
      Boxed (W.setCell ⟨B, 0, none⟩ (.int .i64 (IntKind.i64.wrap ((T : Int) + (U : Int))))).drew B 3 (.int .i64 (N : Int)) ∧ Below w.heap.size w (W.setCell ⟨B, 0, none⟩ (.int .i64 (IntKind.i64.wrap ((T : Int) + (U : Int))))).drew := by
  have hk : KeepsOthers W (W.setCell ⟨B, 0, none⟩ (.int .i64 (IntKind.i64.wrap ((T : Int) + (U : Int))))).drew := (KeepsOthers.setCell _ _ _).trans (KeepsOthers.drew _)
  refine ⟨hk, walks_of hk, ?_, (hB.setCell (p := ⟨B, 0, none⟩) hb _).drew⟩
  rw [IntWalk.i64_in _ (by omega), HP]
  have := HX.set (.int .i64 ((T : Int) + (U : Int)))
  rw [show ((T : Int) + (U : Int)) = ((T + U : Nat) : Int) from by omega] at this ⊢
  exact this

end Go.Proofs.YtmknkecaeagmbaaGreatDoor

/- The contract of utf.place at its two uses: its words. -/
namespace Go.Proofs.YtmknkecaeagmbaaGreatDoor
open Go.RowKit Go.Shelf
set_option linter.unusedVariables false
set_option maxRecDepth 100000
attribute [local go_sem] Oper.semAt_some

def one1 (_ : Nat) : Nat := 1
def ssum (f : Nat → Nat) (l : List Nat) : Nat := (l.map f).sum
/-- Where the count stops: behind k runes, the first place that is n or above, or at the end. -/
def StopAt (f : Nat → Nat) (n : Int) (rs : List Nat) (k : Nat) : Prop := k ≤ rs.length ∧ (∀ j, j < k → (ssum f (rs.take j) : Int) < n) ∧ (k = rs.length ∨ n ≤ (ssum f (rs.take k) : Int))
theorem enumR_take (k m : Nat) (l : List Nat) : (enumR k l).take m = enumR k (l.take m) := by
  induction l generalizing k m with
  | nil => simp [enumR]
  | cons r l ih => cases m with
    | zero => simp [enumR]
    | succ m => simp [enumR, ih]
theorem sumP_take (f : Nat → Nat) (m : Nat) (l : List Nat) : sumP f ((enumR 0 l).take m) = ssum f (l.take m) := by
  rw [enumR_take, sumP_enum]; rfl
/-- All places ahead are below n. -/
def Under (f : Nat → Nat) (n : Int) (pre : List (Nat × Nat)) : Prop := ∀ j, j < pre.length → (sumP f (pre.take j) : Int) < n
theorem under_snoc {f : Nat → Nat} {n : Int} {pre : List (Nat × Nat)} {x : Nat × Nat} (h : Under f n pre) (hx : (sumP f pre : Int) < n) : Under f n (pre ++ [x]) := by
  intro j hj
  rw [List.length_append, List.length_singleton] at hj
  by_cases e : j < pre.length
  · rw [List.take_append_of_le_length (by omega)]; exact h j e
  · rw [show j = pre.length from by omega, List.take_left]; exact hx
theorem stop_end {f : Nat → Nat} {n : Int} {rs : List Nat} (h : Under f n (enumR 0 rs)) : StopAt f n rs rs.length := by
  refine ⟨Nat.le_refl _, fun j hj => ?_, .inl rfl⟩
  have := h j (by rw [enumR_len]; exact hj)
  rwa [sumP_take] at this
theorem stop_mid {f : Nat → Nat} {n : Int} {rs : List Nat} {pre : List (Nat × Nat)} {x : Nat × Nat} (hp : pre ++ [x] <+: enumR 0 rs) (h : Under f n pre) (hn : n ≤ (sumP f pre : Int)) : StopAt f n rs pre.length ∧ pre = (enumR 0 rs).take pre.length := by
  have hp' : pre <+: enumR 0 rs := (List.prefix_append _ _).trans hp
  have ht : pre = (enumR 0 rs).take pre.length := List.prefix_iff_eq_take.1 hp'
  have hl := hp.length_le
  rw [enumR_len, List.length_append] at hl
  refine ⟨⟨by omega, fun j hj => ?_, .inr ?_⟩, ht⟩
  · have := h j hj
    rw [ht, List.take_take, Nat.min_eq_left (by omega), sumP_take] at this
    exact this
  · rw [ht, sumP_take] at hn; exact hn
/-- What place answers. -/
def PlacePost (f g : Nat → Nat) (n : Int) (l : List UInt8) (w : World) (e : Ending) (w' : World) : Prop :=
  Touch (fun _ => False) w w' ∧ ((runesOf l = none ∧ e = .returned (.tuple #[.int .i64 0, .int .i64 31])) ∨
    ∃ rs k, runesOf l = some rs ∧ StopAt f n rs k ∧ ((((ssum f (rs.take k) : Int) = n) ∧ e = .returned (.tuple #[.int .i64 (ssum g (rs.take k) : Int), .int .i64 0])) ∨ (((ssum f (rs.take k) : Int) ≠ n) ∧ e = .returned (.tuple #[.int .i64 0, .int .i64 30]))))
theorem one1_bd (r : Nat) : one1 r ≤ 2 := by unfold one1; omega
/-- A round that leaves the loop: the place is there, or passed. -/
def PlaceX (f g : Nat → Nat) (n : Int) (B0 B1 : Nat) (w : World) (c : Code) (xs : List (Nat × Nat)) (W : World) : Prop :=
  (c = .exit 0 ∧ ∃ pre x, xs = pre ++ [x] ∧ Under f n pre ∧ n ≤ (sumP f pre : Int) ∧ Boxed W B0 3 (.int .i64 (sumP f pre : Int)) ∧ Boxed W (B0 + 1) 3 (.int .i64 (sumP g pre : Int))) ∧ (Boxed W B1 3 (.int .i64 n) ∧ Below w.heap.size w W)
theorem placeX_own (f g : Nat → Nat) (n : Int) (B0 B1 N : Nat) (w : World) (hN : w.heap.size ≤ N) (c : Code) : OwnFrom N (PlaceX f g n B0 B1 w c) := by
  refine OwnFrom.and (fun xs A B row hs hg hr => ?_) (OwnFrom.and (Own.from (boxed_own _ _ (fun _ => .int .i64 n)) _) (ownFrom_below (Nat.le_refl _) hN))
  obtain ⟨hc, pre, x, he, hu, hn, h1, h2⟩ := hs
  have hr' : ∀ r, row = some r → ∃ o : Obj, A.heap[r]? = some o ∧ o.isCells = false := fun r e => (hr r e).2
  exact ⟨hc, pre, x, he, hu, hn, boxed_own _ _ (fun _ : Unit => _) () A B row h1 hg hr', boxed_own _ _ (fun _ : Unit => _) () A B row h2 hg hr'⟩
theorem boxed_keep {w w' : World} {B : Nat} {t : TypeId} {v : Value} (h : Boxed w B t v) (hT : Touch (fun _ => False) w w') : Boxed w' B t v := (hT.block B h.lt id).trans h
end Go.Proofs.YtmknkecaeagmbaaGreatDoor

/- The document's places: answers as functions, and the contracts of quireref3.Place16, PlaceOf, Cut. -/
namespace Go.Proofs.YtmknkecaeagmbaaGreatDoor
open Go.RowKit
set_option linter.unusedVariables false
set_option maxRecDepth 100000

theorem take_mono (rs : List Nat) {j k : Nat} (h : j < k) (hk : k ≤ rs.length) : sum16 (rs.take j) < sum16 (rs.take k) := by
  have e : rs.take k = rs.take j ++ (rs.take k).drop j := by
    have := (List.take_append_drop j (rs.take k)).symm
    rwa [List.take_take, Nat.min_eq_left (by omega)] at this
  rw [e, sum16_append]
  have := (sum16_bd ((rs.take k).drop j)).1
  rw [List.length_drop, List.length_take] at this
  omega
/-- How many runes stand ahead of the place n of UTF-16. -/
def find16 (rs : List Nat) (n : Int) : Option Nat := (List.range (rs.length + 1)).find? fun k => (sum16 (rs.take k) : Int) == n
theorem find16_some {rs : List Nat} {n : Int} {k : Nat} (hk : k ≤ rs.length) (e : (sum16 (rs.take k) : Int) = n) : find16 rs n = some k := by
  unfold find16
  cases h : (List.range (rs.length + 1)).find? fun k => (sum16 (rs.take k) : Int) == n with
  | none =>
    have := List.find?_eq_none.1 h k (by simp; omega)
    simp [e] at this
  | some j =>
    have h1 := List.find?_some h
    have h2 := List.mem_of_find?_eq_some h
    simp only [List.mem_range] at h2
    simp only [beq_iff_eq] at h1
    have : j = k := by
      rcases Nat.lt_trichotomy j k with c | c | c
      · have := take_mono rs c hk; omega
      · exact c
      · have := take_mono rs c (by omega); omega
    rw [this]
theorem find16_none {rs : List Nat} {n : Int} (h : ∀ k, k ≤ rs.length → (sum16 (rs.take k) : Int) ≠ n) : find16 rs n = none := by
  unfold find16
  rw [List.find?_eq_none]
  intro k hk
  simp only [List.mem_range] at hk
  simp only [beq_iff_eq]
  exact h k (by omega)
theorem find16_is {rs : List Nat} {n : Int} {k : Nat} (h : find16 rs n = some k) : k ≤ rs.length ∧ (sum16 (rs.take k) : Int) = n := by
  unfold find16 at h
  have h1 := List.find?_some h
  have h2 := List.mem_of_find?_eq_some h
  simp only [List.mem_range] at h2
  simp only [beq_iff_eq] at h1
  exact ⟨by omega, h1⟩
/-- Place16's answer and error; Place's. -/
def ans16 (l : List UInt8) (n : Int) : Int × Int := match runesOf l with
  | none => (0, 31)
  | some rs => match find16 rs n with
    | some k => ((k : Int), 0)
    | none => (0, 30)
def ansP (l : List UInt8) (n : Int) : Int × Int := match runesOf l with
  | none => (0, 31)
  | some rs => if n < 0 ∨ (rs.length : Int) < n then (0, 30) else ((sum16 (rs.take n.toNat) : Int), 0)
theorem ans16_none {l : List UInt8} (n : Int) (h : runesOf l = none) : ans16 l n = (0, 31) := by unfold ans16; rw [h]
theorem ansP_none {l : List UInt8} (n : Int) (h : runesOf l = none) : ansP l n = (0, 31) := by unfold ansP; rw [h]
theorem ans16_at {l : List UInt8} {rs : List Nat} {n : Int} {k : Nat} (h : runesOf l = some rs) (hk : k ≤ rs.length) (e : (sum16 (rs.take k) : Int) = n) : ans16 l n = ((k : Int), 0) := by unfold ans16; rw [h]; simp only; rw [find16_some hk e]
theorem ans16_no {l : List UInt8} {rs : List Nat} {n : Int} (h : runesOf l = some rs) (hn : ∀ k, k ≤ rs.length → (sum16 (rs.take k) : Int) ≠ n) : ans16 l n = (0, 30) := by unfold ans16; rw [h]; simp only; rw [find16_none hn]
theorem ansP_at {l : List UInt8} {rs : List Nat} {n : Int} (h : runesOf l = some rs) (h0 : 0 ≤ n) (h1 : n ≤ (rs.length : Int)) : ansP l n = ((sum16 (rs.take n.toNat) : Int), 0) := by unfold ansP; rw [h]; simp only; rw [if_neg (by omega)]
theorem ansP_no {l : List UInt8} {rs : List Nat} {n : Int} (h : runesOf l = some rs) (h0 : n < 0 ∨ (rs.length : Int) < n) : ansP l n = (0, 30) := by unfold ansP; rw [h]; simp only; rw [if_pos h0]
theorem ret2_of (p : Int × Int) {a b : Int} (h : p = (a, b)) : Ending.returned (.tuple #[.int .i64 a, .int .i64 b]) = .returned (.tuple #[.int .i64 p.1, .int .i64 p.2]) := by rw [h]

theorem encode_ok (r : Nat) (hr : okRune r) : (Utf8.encode (r : Int)).data.toList = encR r := by
  unfold okRune at hr
  have hv : Utf8.valid (r : Int) = true := by rw [valid_nat]; simpa using hr
  have hz : ∀ n : Nat, UInt8.ofNat n = ((n : Int)).toNat.toUInt8 := fun n => rfl
  unfold Utf8.encode encR Go.Lib.encodeRune
  simp only [hv, if_true, Int.toNat_natCast]
  by_cases c1 : r < 128
  · rw [if_pos c1, Go.Lib.encodeRuneZ_one (by omega) (by omega)]; rfl
  rw [if_neg c1]
  by_cases c2 : r < 2048
  · rw [if_pos c2, Go.Lib.encodeRuneZ_two (by omega) (by omega)]; rfl
  rw [if_neg c2]
  by_cases c3 : r < 65536
  · rw [if_pos c3, Go.Lib.encodeRuneZ_three (by omega)]; rfl
  rw [if_neg c3, Go.Lib.encodeRuneZ_four (by omega) (by omega)]; rfl
theorem runesBytes_go (rs : List Nat) (h : ∀ r ∈ rs, okRune r) : ∀ b : ByteArray, ((rs.map fun r : Nat => (r : Int)).foldl (fun r n => r ++ Utf8.encode n) b).data.toList = b.data.toList ++ encAll rs := by
  induction rs with
  | nil => intro b; simp [encAll]
  | cons r rs ih =>
    intro b
    rw [List.map_cons, List.foldl_cons, ih (fun x hx => h x (by simp [hx])), encAll_cons, ByteArray.data_append, Array.toList_append, encode_ok r (h r (by simp)), List.append_assoc]
theorem bytes_ext {a b : ByteArray} (h : a.data.toList = b.data.toList) : a = b := by
  apply ByteArray.ext; exact Array.toList_inj.1 h
def strOf (l : List UInt8) : ByteArray := ⟨l.toArray⟩
theorem strOf_list (l : List UInt8) : (strOf l).data.toList = l := by simp [strOf]
theorem strOf_self (s : ByteArray) : strOf s.data.toList = s := bytes_ext (strOf_list _)
theorem strOf_size (l : List UInt8) : (strOf l).size = l.length := by show l.toArray.size = _; simp
/-- A slice of runes as a string. -/
theorem runes_str (rs : List Nat) (h : ∀ r ∈ rs, okRune r) : runesBytes (rs.map fun r : Nat => (r : Int)) = strOf (encAll rs) := by
  apply bytes_ext
  rw [strOf_list]
  have := runesBytes_go rs h ByteArray.empty
  simpa [runesBytes] using this
end Go.Proofs.YtmknkecaeagmbaaGreatDoor
