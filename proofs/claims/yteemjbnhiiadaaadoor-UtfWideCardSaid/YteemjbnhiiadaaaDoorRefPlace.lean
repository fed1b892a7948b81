/- The document's places: answers as functions, and the contracts of quireref3.Place16, PlaceOf, Cut. -/
import Derived.Test.YteemjbnhiiadaaaDoorRefLen
import Derived.Laws.Cover4
import Derived.Lib.Strings
namespace Go.Proofs.YteemjbnhiiadaaaDoor
open Go.RowKit
set_option linter.unusedVariables false
set_option maxRecDepth 100000

theorem take_mono (rs : List Nat) {j k : Nat} (h : j < k) (hk : k ≤ rs.length) : sum16 (rs.take j) < sum16 (rs.take k) := by
  have e : rs.take k = rs.take j ++ (rs.take k).drop j := by
    have := (List.take_append_drop j (rs.take k)).symm
    rwa [List.take_take, Nat.min_eq_left (by omega)] at this
  rw [e, sum16_append]
  have := (sum16_bd ((rs.take k).drop j)).1
  rw [List.length_drop, List.length_take] at this
  omega
/-- How many runes stand ahead of the place n of UTF-16. -/
def find16 (rs : List Nat) (n : Int) : Option Nat := (List.range (rs.length + 1)).find? fun k => (sum16 (rs.take k) : Int) == n
theorem find16_some {rs : List Nat} {n : Int} {k : Nat} (hk : k ≤ rs.length) (e : (sum16 (rs.take k) : Int) = n) : find16 rs n = some k := by
  unfold find16
  cases h : (List.range (rs.length + 1)).find? fun k => (sum16 (rs.take k) : Int) == n with
  | none =>
    have := List.find?_eq_none.1 h k (by simp; omega)
    simp [e] at this
  | some j =>
    have h1 := List.find?_some h
    have h2 := List.mem_of_find?_eq_some h
    simp only [List.mem_range] at h2
    simp only [beq_iff_eq] at h1
    have : j = k := by
      rcases Nat.lt_trichotomy j k with c | c | c
      · have := take_mono rs c hk; omega
      · exact c
      · have := take_mono rs c (by omega); omega
    rw [this]
theorem find16_none {rs : List Nat} {n : Int} (h : ∀ k, k ≤ rs.length → (sum16 (rs.take k) : Int) ≠ n) : find16 rs n = none := by
  unfold find16
  rw [List.find?_eq_none]
  intro k hk
  simp only [List.mem_range] at hk
  simp only [beq_iff_eq]
  exact h k (by omega)
theorem find16_is {rs : List Nat} {n : Int} {k : Nat} (h : find16 rs n = some k) : k ≤ rs.length ∧ (sum16 (rs.take k) : Int) = n := by
  unfold find16 at h
  have h1 := List.find?_some h
  have h2 := List.mem_of_find?_eq_some h
  simp only [List.mem_range] at h2
  simp only [beq_iff_eq] at h1
  exact ⟨by omega, h1⟩
/-- Place16's answer and error; Place's. -/
def ans16 (l : List UInt8) (n : Int) : Int × Int := match runesOf l with
  | none => (0, 31)
  | some rs => match find16 rs n with
    | some k => ((k : Int), 0)
    | none => (0, 30)
def ansP (l : List UInt8) (n : Int) : Int × Int := match runesOf l with
  | none => (0, 31)
  | some rs => if n < 0 ∨ (rs.length : Int) < n then (0, 30) else ((sum16 (rs.take n.toNat) : Int), 0)
theorem ans16_none {l : List UInt8} (n : Int) (h : runesOf l = none) : ans16 l n = (0, 31) := by unfold ans16; rw [h]
theorem ansP_none {l : List UInt8} (n : Int) (h : runesOf l = none) : ansP l n = (0, 31) := by unfold ansP; rw [h]
theorem ans16_at {l : List UInt8} {rs : List Nat} {n : Int} {k : Nat} (h : runesOf l = some rs) (hk : k ≤ rs.length) (e : (sum16 (rs.take k) : Int) = n) : ans16 l n = ((k : Int), 0) := by unfold ans16; rw [h]; simp only; rw [find16_some hk e]
theorem ans16_no {l : List UInt8} {rs : List Nat} {n : Int} (h : runesOf l = some rs) (hn : ∀ k, k ≤ rs.length → (sum16 (rs.take k) : Int) ≠ n) : ans16 l n = (0, 30) := by unfold ans16; rw [h]; simp only; rw [find16_none hn]
theorem ansP_at {l : List UInt8} {rs : List Nat} {n : Int} (h : runesOf l = some rs) (h0 : 0 ≤ n) (h1 : n ≤ (rs.length : Int)) : ansP l n = ((sum16 (rs.take n.toNat) : Int), 0) := by unfold ansP; rw [h]; simp only; rw [if_neg (by omega)]
theorem ansP_no {l : List UInt8} {rs : List Nat} {n : Int} (h : runesOf l = some rs) (h0 : n < 0 ∨ (rs.length : Int) < n) : ansP l n = (0, 30) := by unfold ansP; rw [h]; simp only; rw [if_pos h0]
theorem ret2_of (p : Int × Int) {a b : Int} (h : p = (a, b)) : Ending.returned (.tuple #[.int .i64 a, .int .i64 b]) = .returned (.tuple #[.int .i64 p.1, .int .i64 p.2]) := by rw [h]

set_option maxHeartbeats 1000000 in
theorem ref_place16 (s : ByteArray) (hs : s.size ≤ 17592186044416) (n : Int) (w : World) : Calls Tryd.prog 22 #[.string s, .int .i64 n] w fun e w' => e = .returned (.tuple #[.int .i64 (ans16 s.data.toList n).1, .int .i64 (ans16 s.data.toList n).2]) ∧ Touch (fun _ => False) w w' := by
  have HR : Hid (Calls Tryd.prog 16 #[.string s] w (RunesAny s.data.toList w)) := ref_runes_any s hs w
  have hln : (rsOf s.data.toList).length ≤ 17592186044416 := by have := rsOf_len s.data.toList; simp at this; omega
  go_enter Tryd.func22, Tryd.ntmps22
  go_wp2_with fail
  refine HR.out.mono ?_
  rintro e w1 ⟨hT, a, c, rfl, hrow⟩
  have HT : Hid (Touch (fun _ => False) w w1) := hT
  have hcap := hrow.1
  have hmax := hrow.2.1
  clear hT HR
  cases hr : runesOf s.data.toList with
  | none =>
    have HE : Hid (ans16 s.data.toList n = (0, 31)) := ans16_none n hr
    clear hr hrow
    simp only [Option.isSome_none]
    go_wp2_with fail
    go_ret2
    exact ⟨ret2_of _ HE.out, HT.out⟩
  | some rs =>
    have HR : Hid (runesOf s.data.toList = some rs) := hr
    rw [rsOf_some hr] at hrow hcap hln ⊢
    have HRow : Hid (Row w1 a c rs) := hrow
    clear hr hrow
    simp only [Option.isSome_some]
    go_wp2_with fail
    go_loop [8, 9] (fun t i => ∃ k : Nat, k ≤ rs.length + 1 ∧ i = .int .i64 k ∧ t = .int .i64 (sum16 (rs.take k) : Int) ∧ ∀ j, j < k → (sum16 (rs.take j) : Int) ≠ n) (fun _ i => rs.length + 1 - (intOf i).toNat)
    case atStart => exact ⟨0, Nat.zero_le _, rfl, rfl, fun j h => by omega⟩
    case round =>
      obtain ⟨k, hk, rfl, rfl, hno⟩ := hrel
      have HNo : Hid (∀ j, j < k → (sum16 (rs.take j) : Int) ≠ n) := hno
      clear hno
      have hb := sum16_bd (rs.take k)
      have hb2 : (rs.take k).length ≤ k := List.length_take_le _ _
      have hT0 : sum16 (rs.take k) ≤ 100000000000000 := by omega
      clear hb hb2
      by_cases hle : k ≤ rs.length
      · by_cases he : (sum16 (rs.take k) : Int) = n
        · have HE : Hid (ans16 s.data.toList n = ((k : Int), 0)) := ans16_at HR.out hle he
          have hbq : ((sum16 (rs.take k) : Int) == n) = true := by simp [he]
          clear he
          go_wp2_with fail
          go_ret2
          exact ⟨ret2_of _ HE.out, HT.out⟩
        · have HN2 : Hid (∀ j, j < k + 1 → (sum16 (rs.take j) : Int) ≠ n) := fun j hj => by
            by_cases e : j < k
            · exact HNo.out j e
            · rw [show j = k from by omega]; exact he
          have hbq : ((sum16 (rs.take k) : Int) == n) = false := by rw [beq_eq_false_iff_ne]; exact he
          clear he
          by_cases hlt : k < rs.length
          · obtain ⟨g, hg, hc⟩ := HRow.out.2.2 (fun e => by rw [e] at hlt; simp at hlt)
            subst hg
            have hck := hc k hlt
            have hu := un16_bd rs[k]
            have HS : Hid (sum16 (rs.take (k + 1)) = sum16 (rs.take k) + un16 rs[k]) := sum16_take rs k hlt
            have HW : Hid (∀ w, Calls Tryd.prog 28 #[.int .i32 (rs[k] : Int)] w fun e w' => e = .returned (.int .i64 (un16 rs[k] : Int)) ∧ w' = w) := fun w => wide_any _ w
            clear hc
            generalize rs[k] = r at *
            generalize sum16 (rs.take k) = T at *
            generalize un16 r = U at *
            go_wp2_with fail
            refine (HW.out _).mono ?_
            rintro e w2 ⟨rfl, rfl⟩
            go_wp2_with fail
            go_round
            case rel => exact ⟨k + 1, by omega, by go_num, by rw [HS.out]; go_num, HN2.out⟩
            case measure => simp [intOf]; omega
          · have HS : Hid (sum16 (rs.take (k + 1)) = sum16 (rs.take k)) := by rw [Hid, List.take_of_length_le (by omega), List.take_of_length_le (by omega)]
            generalize sum16 (rs.take k) = T at *
            go_wp2_with fail
            go_round
            case rel => exact ⟨k + 1, by omega, by go_num, by rw [HS.out], HN2.out⟩
            case measure => simp [intOf]; omega
      · have HE : Hid (ans16 s.data.toList n = (0, 30)) := ans16_no HR.out fun j hj => HNo.out j (by omega)
        generalize sum16 (rs.take k) = T at *
        go_wp2_with fail
        go_ret2
        exact ⟨ret2_of _ HE.out, HT.out⟩

theorem encode_ok (r : Nat) (hr : okRune r) : (Utf8.encode (r : Int)).data.toList = encR r := by
  unfold okRune at hr
  have hv : Utf8.valid (r : Int) = true := by rw [valid_nat]; simpa using hr
  have hz : ∀ n : Nat, UInt8.ofNat n = ((n : Int)).toNat.toUInt8 := fun n => rfl
  unfold Utf8.encode encR Go.Lib.encodeRune
  simp only [hv, if_true, Int.toNat_natCast]
  by_cases c1 : r < 128
  · rw [if_pos c1, Go.Lib.encodeRuneZ_one (by omega) (by omega)]; rfl
  rw [if_neg c1]
  by_cases c2 : r < 2048
  · rw [if_pos c2, Go.Lib.encodeRuneZ_two (by omega) (by omega)]; rfl
  rw [if_neg c2]
  by_cases c3 : r < 65536
  · rw [if_pos c3, Go.Lib.encodeRuneZ_three (by omega)]; rfl
  rw [if_neg c3, Go.Lib.encodeRuneZ_four (by omega) (by omega)]; rfl
theorem runesBytes_go (rs : List Nat) (h : ∀ r ∈ rs, okRune r) : ∀ b : ByteArray, ((rs.map fun r : Nat => (r : Int)).foldl (fun r n => r ++ Utf8.encode n) b).data.toList = b.data.toList ++ encAll rs := by
  induction rs with
  | nil => intro b; simp [encAll]
  | cons r rs ih =>
    intro b
    rw [List.map_cons, List.foldl_cons, ih (fun x hx => h x (by simp [hx])), encAll_cons, ByteArray.data_append, Array.toList_append, encode_ok r (h r (by simp)), List.append_assoc]
theorem bytes_ext {a b : ByteArray} (h : a.data.toList = b.data.toList) : a = b := by
  apply ByteArray.ext; exact Array.toList_inj.1 h
def strOf (l : List UInt8) : ByteArray := ⟨l.toArray⟩
theorem strOf_list (l : List UInt8) : (strOf l).data.toList = l := by simp [strOf]
theorem strOf_self (s : ByteArray) : strOf s.data.toList = s := bytes_ext (strOf_list _)
theorem strOf_size (l : List UInt8) : (strOf l).size = l.length := by show l.toArray.size = _; simp
/-- A slice of runes as a string. -/
theorem runes_str (rs : List Nat) (h : ∀ r ∈ rs, okRune r) : runesBytes (rs.map fun r : Nat => (r : Int)) = strOf (encAll rs) := by
  apply bytes_ext
  rw [strOf_list]
  have := runesBytes_go rs h ByteArray.empty
  simpa [runesBytes] using this
end Go.Proofs.YteemjbnhiiadaaaDoor
