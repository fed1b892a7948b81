/- The contracts of utf.units16, utf.one, quireref3.wide, utf8.RuneLen. -/
import Derived.Test.YtphcnjbiojdalaaGreatDoorUtfBij
import Derived.WalkKit
import Derived.Test.YtphcnjbiojdalaaGreatDoorProg
import Derived.Laws.OwnMore
import Derived.Laws.Cover4
import Derived.Lib.Strings
namespace Go.Proofs.YtphcnjbiojdalaaGreatDoor
open Go.RowKit
set_option linter.unusedVariables false

/-- A rune's units of UTF-16. -/
def un16 (r : Nat) : Nat := if 65535 < r then 2 else 1
def sum16 (l : List Nat) : Nat := (l.map un16).sum
theorem un16_bd (r : Nat) : 1 ≤ un16 r ∧ un16 r ≤ 2 := by unfold un16; split <;> omega
theorem sum16_nil : sum16 [] = 0 := rfl
theorem sum16_cons (r : Nat) (l : List Nat) : sum16 (r :: l) = un16 r + sum16 l := by simp [sum16]
theorem sum16_append (a b : List Nat) : sum16 (a ++ b) = sum16 a + sum16 b := by simp [sum16]
theorem sum16_bd (l : List Nat) : l.length ≤ sum16 l ∧ sum16 l ≤ 2 * l.length := by
  induction l with
  | nil => simp [sum16]
  | cons r l ih => have := un16_bd r; rw [sum16_cons, List.length_cons]; omega

theorem runeLen_any (r : Nat) (w : World) : Calls Tryz.prog 71 #[.int .i32 (r : Int)] w fun e w' => e = .returned (.int .i64 (Go.Lib.runeLen (r : Int))) ∧ w' = w := by
  have hc : r ≤ 127 ∨ (127 < r ∧ r ≤ 2047) ∨ (2047 < r ∧ r < 55296) ∨ (55296 ≤ r ∧ r ≤ 57343) ∨ (57343 < r ∧ r ≤ 65535) ∨ (65535 < r ∧ r ≤ 1114111) ∨ 1114111 < r := by omega
  rcases hc with h | ⟨h, h'⟩ | ⟨h, h'⟩ | ⟨h, h'⟩ | ⟨h, h'⟩ | ⟨h, h'⟩ | h
  · have HE : Hid (Go.Lib.runeLen (r : Int) = 1) := by unfold Go.Lib.runeLen; rw [Hid]; repeat' split
                                                       all_goals omega
    generalize Go.Lib.runeLen (r : Int) = X at *
    go_enter Tryz.func71, Tryz.ntmps71
    go_wp2_with fail
    go_ret
    exact ⟨by rw [HE.out]; rfl, rfl⟩
  · have HE : Hid (Go.Lib.runeLen (r : Int) = 2) := by unfold Go.Lib.runeLen; rw [Hid]; repeat' split
                                                       all_goals omega
    generalize Go.Lib.runeLen (r : Int) = X at *
    go_enter Tryz.func71, Tryz.ntmps71
    go_wp2_with fail
    go_ret
    exact ⟨by rw [HE.out]; rfl, rfl⟩
  · have HE : Hid (Go.Lib.runeLen (r : Int) = 3) := by unfold Go.Lib.runeLen; rw [Hid]; repeat' split
                                                       all_goals omega
    generalize Go.Lib.runeLen (r : Int) = X at *
    go_enter Tryz.func71, Tryz.ntmps71
    go_wp2_with fail
    go_ret
    exact ⟨by rw [HE.out]; rfl, rfl⟩
  · have HE : Hid (Go.Lib.runeLen (r : Int) = -1) := by unfold Go.Lib.runeLen; rw [Hid]; repeat' split
                                                        all_goals omega
    generalize Go.Lib.runeLen (r : Int) = X at *
    go_enter Tryz.func71, Tryz.ntmps71
    go_wp2_with fail
    go_ret
    exact ⟨by rw [HE.out]; rfl, rfl⟩
  · have HE : Hid (Go.Lib.runeLen (r : Int) = 3) := by unfold Go.Lib.runeLen; rw [Hid]; repeat' split
                                                       all_goals omega
    generalize Go.Lib.runeLen (r : Int) = X at *
    go_enter Tryz.func71, Tryz.ntmps71
    go_wp2_with fail
    go_ret
    exact ⟨by rw [HE.out]; rfl, rfl⟩
  · have HE : Hid (Go.Lib.runeLen (r : Int) = 4) := by unfold Go.Lib.runeLen; rw [Hid]; repeat' split
                                                       all_goals omega
    generalize Go.Lib.runeLen (r : Int) = X at *
    go_enter Tryz.func71, Tryz.ntmps71
    go_wp2_with fail
    go_ret
    exact ⟨by rw [HE.out]; rfl, rfl⟩
  · have HE : Hid (Go.Lib.runeLen (r : Int) = -1) := by unfold Go.Lib.runeLen; rw [Hid]; repeat' split
                                                        all_goals omega
    generalize Go.Lib.runeLen (r : Int) = X at *
    go_enter Tryz.func71, Tryz.ntmps71
    go_wp2_with fail
    go_ret
    exact ⟨by rw [HE.out]; rfl, rfl⟩
end Go.Proofs.YtphcnjbiojdalaaGreatDoor

/- The contracts of quireref3.Runes in one form, Len, Len16. -/
namespace Go.Proofs.YtphcnjbiojdalaaGreatDoor
open Go.RowKit
set_option linter.unusedVariables false
set_option maxRecDepth 100000

/-- A slice of runes lies in w. -/
def Row (w : World) (a : Option Addr) (c : Nat) (rs : List Nat) : Prop :=
  rs.length ≤ c ∧ c ≤ maxLen ∧ (rs ≠ [] → ∃ g, a = some ⟨g, 0, none⟩ ∧ ∀ k, (h : k < rs.length) → w.cell? ⟨g, k, none⟩ = some (.int .i32 (rs[k] : Int)))
theorem Row.keep {w w' : World} {a : Option Addr} {c : Nat} {rs : List Nat} (h : Row w a c rs) (hT : Touch (fun _ => False) w w') : Row w' a c rs := by
  refine ⟨h.1, h.2.1, fun hne => ?_⟩
  obtain ⟨g, e, hc⟩ := h.2.2 hne
  exact ⟨g, e, fun k hk => (hT.cell (World.block_lt_of_cell? _ _ (hc k hk)) id k).trans (hc k hk)⟩
/-- What Runes answers: a slice of the text's runes, and whether it is a text. -/
def RunesAny (l : List UInt8) (w : World) (e : Ending) (w' : World) : Prop :=
  Touch (fun _ => False) w w' ∧ ∃ a c, e = .returned (.tuple #[.slice a (rsOf l).length c, .bool (runesOf l).isSome]) ∧ Row w' a c (rsOf l)
theorem ref_runes_any (s : ByteArray) (hs : s.size ≤ 17592186044416) (w : World) : Calls Tryz.prog 58 #[.string s] w (RunesAny s.data.toList w) := by
  refine (ref_runes s hs w).mono ?_
  rintro e w' ⟨hT, ⟨rs, v, h, rfl, hown⟩ | ⟨h, rfl⟩⟩
  · refine ⟨hT, ?_⟩
    rw [rsOf_some h, h]
    have hown0 := hown
    rcases hown.2 with ⟨e, h0⟩ | ⟨g, cap, cur, e, _, hb, hn, hm, _⟩
    · refine ⟨none, 0, ?_, by omega, Nat.zero_le _, fun hne => absurd (List.eq_nil_of_length_eq_zero h0) hne⟩
      rw [e, h0]; rfl
    · subst e
      refine ⟨_, cap, rfl, hn, hm, fun _ => ⟨g, rfl, fun k hk => ?_⟩⟩
      rw [hown0.cellAt k (by omega), runeCells, List.getElem?_map, List.getElem?_eq_getElem hk]
      rfl
  · refine ⟨hT, ?_⟩
    rw [rsOf_none h, h]
    exact ⟨none, 0, rfl, Nat.le_refl _, Nat.zero_le _, fun hne => absurd rfl hne⟩

set_option maxHeartbeats 400000 in
theorem ref_len (s : ByteArray) (hs : s.size ≤ 17592186044416) (w : World) : Calls Tryz.prog 32 #[.string s] w fun e w' => e = .returned (.int .i64 ((rsOf s.data.toList).length : Int)) ∧ Touch (fun _ => False) w w' := by
  have HR : Hid (Calls Tryz.prog 58 #[.string s] w (RunesAny s.data.toList w)) := ref_runes_any s hs w
  go_enter Tryz.func32, Tryz.ntmps32
  go_wp2_with fail
  refine HR.out.mono ?_
  rintro e w1 ⟨hT, a, c, rfl, hown⟩
  have HT : Hid (Touch (fun _ => False) w w1) := hT
  clear hown hT HR
  go_wp2_with fail
  go_ret
  exact ⟨rfl, HT.out⟩

theorem sum16_take (rs : List Nat) (k : Nat) (hk : k < rs.length) : sum16 (rs.take (k + 1)) = sum16 (rs.take k) + un16 rs[k] := by
  rw [List.take_succ_eq_append_getElem hk, sum16_append]; simp [sum16]

end Go.Proofs.YtphcnjbiojdalaaGreatDoor

/- The document's places: answers as functions, and the contracts of quireref3.Place16, PlaceOf, Cut. -/
namespace Go.Proofs.YtphcnjbiojdalaaGreatDoor
open Go.RowKit
set_option linter.unusedVariables false
set_option maxRecDepth 100000

theorem take_mono (rs : List Nat) {j k : Nat} (h : j < k) (hk : k ≤ rs.length) : sum16 (rs.take j) < sum16 (rs.take k) := by
  have e : rs.take k = rs.take j ++ (rs.take k).drop j := by
    have := (List.take_append_drop j (rs.take k)).symm
    rwa [List.take_take, Nat.min_eq_left (by omega)] at this
  rw [e, sum16_append]
  have := (sum16_bd ((rs.take k).drop j)).1
  rw [List.length_drop, List.length_take] at this
  omega
/-- How many runes stand ahead of the place n of UTF-16. -/
def find16 (rs : List Nat) (n : Int) : Option Nat := (List.range (rs.length + 1)).find? fun k => (sum16 (rs.take k) : Int) == n
theorem find16_some {rs : List Nat} {n : Int} {k : Nat} (hk : k ≤ rs.length) (e : (sum16 (rs.take k) : Int) = n) : find16 rs n = some k := by
  unfold find16
  cases h : (List.range (rs.length + 1)).find? fun k => (sum16 (rs.take k) : Int) == n with
  | none =>
    have := List.find?_eq_none.1 h k (by simp; omega)
    simp [e] at this
  | some j =>
    have h1 := List.find?_some h
    have h2 := List.mem_of_find?_eq_some h
    simp only [List.mem_range] at h2
    simp only [beq_iff_eq] at h1
    have : j = k := by
      rcases Nat.lt_trichotomy j k with c | c | c
      · have := take_mono rs c hk; omega
      · exact c
      · have := take_mono rs c (by omega); omega
    rw [this]
theorem find16_none {rs : List Nat} {n : Int} (h : ∀ k, k ≤ rs.length → (sum16 (rs.take k) : Int) ≠ n) : find16 rs n = none := by
  unfold find16
  rw [List.find?_eq_none]
  intro k hk
  simp only [List.mem_range] at hk
  simp only [beq_iff_eq]
  exact h k (by omega)
theorem find16_is {rs : List Nat} {n : Int} {k : Nat} (h : find16 rs n = some k) : k ≤ rs.length ∧ (sum16 (rs.take k) : Int) = n := by
  unfold find16 at h
  have h1 := List.find?_some h
  have h2 := List.mem_of_find?_eq_some h
  simp only [List.mem_range] at h2
  simp only [beq_iff_eq] at h1
  exact ⟨by omega, h1⟩
/-- Place16's answer and error; Place's. -/
def ans16 (l : List UInt8) (n : Int) : Int × Int := match runesOf l with
  | none => (0, 31)
  | some rs => match find16 rs n with
    | some k => ((k : Int), 0)
    | none => (0, 30)
def ansP (l : List UInt8) (n : Int) : Int × Int := match runesOf l with
  | none => (0, 31)
  | some rs => if n < 0 ∨ (rs.length : Int) < n then (0, 30) else ((sum16 (rs.take n.toNat) : Int), 0)
theorem ans16_none {l : List UInt8} (n : Int) (h : runesOf l = none) : ans16 l n = (0, 31) := by unfold ans16; rw [h]
theorem ansP_none {l : List UInt8} (n : Int) (h : runesOf l = none) : ansP l n = (0, 31) := by unfold ansP; rw [h]
theorem ans16_at {l : List UInt8} {rs : List Nat} {n : Int} {k : Nat} (h : runesOf l = some rs) (hk : k ≤ rs.length) (e : (sum16 (rs.take k) : Int) = n) : ans16 l n = ((k : Int), 0) := by unfold ans16; rw [h]; simp only; rw [find16_some hk e]
theorem ans16_no {l : List UInt8} {rs : List Nat} {n : Int} (h : runesOf l = some rs) (hn : ∀ k, k ≤ rs.length → (sum16 (rs.take k) : Int) ≠ n) : ans16 l n = (0, 30) := by unfold ans16; rw [h]; simp only; rw [find16_none hn]
theorem ansP_at {l : List UInt8} {rs : List Nat} {n : Int} (h : runesOf l = some rs) (h0 : 0 ≤ n) (h1 : n ≤ (rs.length : Int)) : ansP l n = ((sum16 (rs.take n.toNat) : Int), 0) := by unfold ansP; rw [h]; simp only; rw [if_neg (by omega)]
theorem ansP_no {l : List UInt8} {rs : List Nat} {n : Int} (h : runesOf l = some rs) (h0 : n < 0 ∨ (rs.length : Int) < n) : ansP l n = (0, 30) := by unfold ansP; rw [h]; simp only; rw [if_pos h0]
theorem ret2_of (p : Int × Int) {a b : Int} (h : p = (a, b)) : Ending.returned (.tuple #[.int .i64 a, .int .i64 b]) = .returned (.tuple #[.int .i64 p.1, .int .i64 p.2]) := by rw [h]

theorem encode_ok (r : Nat) (hr : okRune r) : (Utf8.encode (r : Int)).data.toList = encR r := by
  unfold okRune at hr
  have hv : Utf8.valid (r : Int) = true := by rw [valid_nat]; simpa using hr
  have hz : ∀ n : Nat, UInt8.ofNat n = ((n : Int)).toNat.toUInt8 := fun n => rfl
  unfold Utf8.encode encR Go.Lib.encodeRune
  simp only [hv, if_true, Int.toNat_natCast]
  by_cases c1 : r < 128
  · rw [if_pos c1, Go.Lib.encodeRuneZ_one (by omega) (by omega)]; rfl
  rw [if_neg c1]
  by_cases c2 : r < 2048
  · rw [if_pos c2, Go.Lib.encodeRuneZ_two (by omega) (by omega)]; rfl
  rw [if_neg c2]
  by_cases c3 : r < 65536
  · rw [if_pos c3, Go.Lib.encodeRuneZ_three (by omega)]; rfl
  rw [if_neg c3, Go.Lib.encodeRuneZ_four (by omega) (by omega)]; rfl
theorem runesBytes_go (rs : List Nat) (h : ∀ r ∈ rs, okRune r) : ∀ b : ByteArray, ((rs.map fun r : Nat => (r : Int)).foldl (fun r n => r ++ Utf8.encode n) b).data.toList = b.data.toList ++ encAll rs := by
  induction rs with
  | nil => intro b; simp [encAll]
  | cons r rs ih =>
    intro b
    rw [List.map_cons, List.foldl_cons, ih (fun x hx => h x (by simp [hx])), encAll_cons, ByteArray.data_append, Array.toList_append, encode_ok r (h r (by simp)), List.append_assoc]
theorem bytes_ext {a b : ByteArray} (h : a.data.toList = b.data.toList) : a = b := by
  apply ByteArray.ext; exact Array.toList_inj.1 h
def strOf (l : List UInt8) : ByteArray := ⟨l.toArray⟩
theorem strOf_list (l : List UInt8) : (strOf l).data.toList = l := by simp [strOf]
theorem strOf_self (s : ByteArray) : strOf s.data.toList = s := bytes_ext (strOf_list _)
theorem strOf_size (l : List UInt8) : (strOf l).size = l.length := by show l.toArray.size = _; simp
/-- A slice of runes as a string. -/
theorem runes_str (rs : List Nat) (h : ∀ r ∈ rs, okRune r) : runesBytes (rs.map fun r : Nat => (r : Int)) = strOf (encAll rs) := by
  apply bytes_ext
  rw [strOf_list]
  have := runesBytes_go rs h ByteArray.empty
  simpa [runesBytes] using this
end Go.Proofs.YtphcnjbiojdalaaGreatDoor

/- The contracts of quireref3.PlaceOf, Cut. -/
namespace Go.Proofs.YtphcnjbiojdalaaGreatDoor
open Go.RowKit
set_option linter.unusedVariables false
set_option maxRecDepth 100000

/-- A slice of runes, turned into a string. -/
theorem conv_mid (w : World) (g o cap : Nat) (rs : List Nat) (ok : ∀ r ∈ rs, okRune r) (hc : ∀ k, (h : k < rs.length) → w.cell? ⟨g, o + k, none⟩ = some (.int .i32 (rs[k] : Int))) :
    (convert 72 9 (.slice (some ⟨g, o, none⟩) rs.length cap)).run Tryz.prog w = .ok (.string (strOf (encAll rs))) w := by
  have := run_convert_runes (P := Tryz.prog) w 72 9 21 ⟨g, o, none⟩ rs.length cap (rs.map fun r : Nat => (r : Int)) (by simp) Tryz.underlying72 Tryz.underlying21 Tryz.underlying9 (fun j hj => by
    rw [List.length_map] at hj
    have ha : (⟨g, o, none⟩ : Addr).add j = ⟨g, o + j, none⟩ := by
      unfold Addr.add
      by_cases e : j = 0
      · rw [if_pos e, e]; rfl
      · rw [if_neg e]
    rw [ha, hc j hj]
    simp [List.getD, hj])
  rw [this, List.take_of_length_le (by simp), runes_str rs ok]
theorem conv_none (w : World) (l c : Nat) : (convert 72 9 (.slice none l c)).run Tryz.prog w = .ok (.string (strOf (encAll []))) w := by
  rw [run_convert_runes_nil w _ _ 21 l c Tryz.underlying72 Tryz.underlying21 Tryz.underlying9]
  rfl

/-- The runes of a piece. -/
def cutR (rs : List Nat) (fr til : Int) : List Nat := (rs.take til.toNat).drop fr.toNat
def cutOf (l : List UInt8) (fr til : Int) : ByteArray := strOf (encAll (cutR (rsOf l) fr til))
theorem cutOf_nil (l : List UInt8) {fr til : Int} (h : (min til ((rsOf l).length : Int)) ≤ max fr 0) : cutOf l fr til = ⟨#[]⟩ := by
  unfold cutOf cutR
  rw [List.drop_eq_nil_of_le (by rw [List.length_take]; omega)]; rfl

set_option maxHeartbeats 1000000 in
theorem ref_cut (s : ByteArray) (hs : s.size ≤ 1000000) (fr til : Int) (w : World) : Calls Tryz.prog 47 #[.string s, .int .i64 fr, .int .i64 til] w fun e w' => e = .returned (.string (cutOf s.data.toList fr til)) ∧ Touch (fun _ => False) w w' := by
  have HR : Hid (Calls Tryz.prog 58 #[.string s] w (RunesAny s.data.toList w)) := ref_runes_any s (by omega) w
  have hln : (rsOf s.data.toList).length ≤ 1000000 := by have := rsOf_len s.data.toList; simp at this; omega
  have HOk : Hid (∀ r ∈ rsOf s.data.toList, okRune r) := rsOf_ok _
  have HC : Hid (cutOf s.data.toList fr til = strOf (encAll (cutR (rsOf s.data.toList) fr til))) := rfl
  have HC0 : Hid ((min til ((rsOf s.data.toList).length : Int)) ≤ max fr 0 → cutOf s.data.toList fr til = ⟨#[]⟩) := fun h => cutOf_nil _ h
  generalize cutOf s.data.toList fr til = C at *
  go_enter Tryz.func47, Tryz.ntmps47
  go_wp2_with fail
  refine HR.out.mono ?_
  rintro e w1 ⟨hT, a, c, rfl, hrow⟩
  have HT : Hid (Touch (fun _ => False) w w1) := hT
  have hcap := hrow.1
  have hmax := hrow.2.1
  have HRow : Hid (Row w1 a c (rsOf s.data.toList)) := hrow
  clear hT HR hrow
  generalize rsOf s.data.toList = rs at *
  generalize (runesOf s.data.toList).isSome = bb
  by_cases hle : (min til (rs.length : Int)) ≤ max fr 0
  · have HE : Hid (C = ⟨#[]⟩) := HC0.out hle
    have HLe : Hid ((min til (rs.length : Int)) ≤ max fr 0) := hle
    clear hle
    have hc4 : (0 ≤ fr ∨ fr < 0) ∧ (til ≤ (rs.length : Int) ∨ (rs.length : Int) < til) := by omega
    obtain ⟨h1 | h1, h2 | h2⟩ := hc4
    · have h3 : til ≤ fr := by have := HLe.out; omega
      go_wp2_with fail
      all_goals first | (exfalso; omega) | (go_ret; exact ⟨by rw [HE.out]; rfl, HT.out⟩)
    · have h3 : (rs.length : Int) ≤ fr := by have := HLe.out; omega
      go_wp2_with fail
      all_goals first | (exfalso; omega) | (go_ret; exact ⟨by rw [HE.out]; rfl, HT.out⟩)
    · have h3 : til ≤ 0 := by have := HLe.out; omega
      go_wp2_with fail
      all_goals first | (exfalso; omega) | (go_ret; exact ⟨by rw [HE.out]; rfl, HT.out⟩)
    · obtain rfl : rs = [] := List.eq_nil_of_length_eq_zero (by have := HLe.out; omega)
      clear HLe HOk HRow
      simp only [List.length_nil] at *
      go_wp2_with fail
      all_goals first | (exfalso; omega) | (go_ret; exact ⟨by rw [HE.out]; rfl, HT.out⟩)
  · have hne : rs ≠ [] := by intro e; subst e; simp at hle; omega
    obtain ⟨g, hg, hc⟩ := HRow.out.2.2 hne
    subst hg
    obtain ⟨F, hF⟩ : ∃ F : Nat, max fr 0 = (F : Int) := ⟨fr.toNat, by omega⟩
    obtain ⟨T, hT⟩ : ∃ T : Nat, min til (rs.length : Int) = (T : Int) := ⟨(min til (rs.length : Int)).toNat, by omega⟩
    have hcr : cutR rs fr til = (rs.take T).drop F := by
      unfold cutR
      rw [show fr.toNat = F from by omega]
      by_cases e : til.toNat ≤ rs.length
      · rw [show til.toNat = T from by omega]
      · rw [List.take_of_length_le (by omega), List.take_of_length_le (show rs.length ≤ T by omega)]
    have hFT : F < T := by omega
    have hTl : T ≤ rs.length := by omega
    have hl2 : ((rs.take T).drop F).length = T - F := by rw [List.length_drop, List.length_take]; omega
    have HConv : Hid (∀ c', (convert 72 9 (.slice (some ⟨g, F, none⟩) (T - F) c')).run Tryz.prog w1 = .ok (.string C) w1) := fun c' => by
      have := conv_mid w1 g F c' ((rs.take T).drop F) (fun r hr => HOk.out r (List.mem_of_mem_take (List.mem_of_mem_drop hr))) (fun k hk => by rw [hl2] at hk; rw [hc (F + k) (by omega), List.getElem_drop, List.getElem_take])
      rwa [hl2, ← hcr, ← HC.out] at this
    have HNe : Hid (rs ≠ []) := hne
    clear hc HRow HC HC0 hcr hl2 hne
    have HF : Hid (max fr 0 = (F : Int)) := hF
    have HTT : Hid (min til (rs.length : Int) = (T : Int)) := hT
    clear hF hT hle
    have hc4 : (0 ≤ fr ∨ fr < 0) ∧ (til ≤ (rs.length : Int) ∨ (rs.length : Int) < til) := by omega
    have hcv := HConv.out (c - F)
    obtain ⟨h1 | h1, h2 | h2⟩ := hc4
    · obtain rfl : fr = (F : Int) := by have := HF.out; omega
      obtain rfl : til = (T : Int) := by have := HTT.out; omega
      clear HF HTT
      go_wp2_with fail
      go_ret
      exact ⟨rfl, HT.out⟩
    · obtain rfl : fr = (F : Int) := by have := HF.out; omega
      obtain rfl : T = rs.length := by have := HTT.out; omega
      clear HF HTT
      go_wp2_with fail
      go_ret
      exact ⟨rfl, HT.out⟩
    · obtain rfl : F = 0 := by have := HF.out; omega
      obtain rfl : til = (T : Int) := by have := HTT.out; omega
      clear HF HTT
      simp only [Nat.sub_zero] at hcv
      go_wp2_with fail
      go_ret
      exact ⟨rfl, HT.out⟩
    · obtain rfl : F = 0 := by have := HF.out; omega
      obtain rfl : T = rs.length := by have := HTT.out; omega
      clear HF HTT
      simp only [Nat.sub_zero] at hcv
      have hne := HNe.out
      go_wp2_with fail
      go_ret
      exact ⟨rfl, HT.out⟩
end Go.Proofs.YtphcnjbiojdalaaGreatDoor
