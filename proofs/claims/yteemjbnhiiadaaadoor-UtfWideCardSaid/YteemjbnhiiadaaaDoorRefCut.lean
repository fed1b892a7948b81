/- The contracts of quireref3.PlaceOf, Cut. -/
import Derived.Test.YteemjbnhiiadaaaDoorRefPlace
namespace Go.Proofs.YteemjbnhiiadaaaDoor
open Go.RowKit
set_option linter.unusedVariables false
set_option maxRecDepth 100000

/-- A slice of runes, turned into a string. -/
theorem conv_mid (w : World) (g o cap : Nat) (rs : List Nat) (ok : ∀ r ∈ rs, okRune r) (hc : ∀ k, (h : k < rs.length) → w.cell? ⟨g, o + k, none⟩ = some (.int .i32 (rs[k] : Int))) :
    (convert 25 9 (.slice (some ⟨g, o, none⟩) rs.length cap)).run Tryd.prog w = .ok (.string (strOf (encAll rs))) w := by
  have := run_convert_runes (P := Tryd.prog) w 25 9 21 ⟨g, o, none⟩ rs.length cap (rs.map fun r : Nat => (r : Int)) (by simp) Tryd.underlying25 Tryd.underlying21 Tryd.underlying9 (fun j hj => by
    rw [List.length_map] at hj
    have ha : (⟨g, o, none⟩ : Addr).add j = ⟨g, o + j, none⟩ := by
      unfold Addr.add
      by_cases e : j = 0
      · rw [if_pos e, e]; rfl
      · rw [if_neg e]
    rw [ha, hc j hj]
    simp [List.getD, hj])
  rw [this, List.take_of_length_le (by simp), runes_str rs ok]
theorem conv_none (w : World) (l c : Nat) : (convert 25 9 (.slice none l c)).run Tryd.prog w = .ok (.string (strOf (encAll []))) w := by
  rw [run_convert_runes_nil w _ _ 21 l c Tryd.underlying25 Tryd.underlying21 Tryd.underlying9]
  rfl

set_option maxHeartbeats 1000000 in
theorem ref_placeOf (s : ByteArray) (hs : s.size ≤ 1000000) (n : Int) (w : World) : Calls Tryd.prog 24 #[.string s, .int .i64 n] w fun e w' => e = .returned (.tuple #[.int .i64 (ansP s.data.toList n).1, .int .i64 (ansP s.data.toList n).2]) ∧ Touch (fun _ => False) w w' := by
  have HR : Hid (Calls Tryd.prog 16 #[.string s] w (RunesAny s.data.toList w)) := ref_runes_any s (by omega) w
  have hln : (rsOf s.data.toList).length ≤ 1000000 := by have := rsOf_len s.data.toList; simp at this; omega
  go_enter Tryd.func24, Tryd.ntmps24
  go_wp2_with fail
  refine HR.out.mono ?_
  rintro e w1 ⟨hT, a, c, rfl, hrow⟩
  have HT : Hid (Touch (fun _ => False) w w1) := hT
  have hcap := hrow.1
  have hmax := hrow.2.1
  clear hT HR
  cases hr : runesOf s.data.toList with
  | none =>
    have HE : Hid (ansP s.data.toList n = (0, 31)) := ansP_none n hr
    clear hr hrow
    simp only [Option.isSome_none]
    go_wp2_with fail
    go_ret2
    exact ⟨ret2_of _ HE.out, HT.out⟩
  | some rs =>
    have HR : Hid (runesOf s.data.toList = some rs) := hr
    have HOk : Hid (∀ r ∈ rs, okRune r) := (enc_runesOf rs _ hr).1
    rw [rsOf_some hr] at hrow hcap hln ⊢
    have HRow : Hid (Row w1 a c rs) := hrow
    clear hr hrow
    simp only [Option.isSome_some]
    by_cases h0 : n < 0
    · have HE : Hid (ansP s.data.toList n = (0, 30)) := ansP_no HR.out (.inl h0)
      go_wp2_with fail
      go_ret2
      exact ⟨ret2_of _ HE.out, HT.out⟩
    by_cases h1 : (rs.length : Int) < n
    · have HE : Hid (ansP s.data.toList n = (0, 30)) := ansP_no HR.out (.inr h1)
      go_wp2_with fail
      go_ret2
      exact ⟨ret2_of _ HE.out, HT.out⟩
    · obtain ⟨m, rfl⟩ : ∃ m : Nat, n = (m : Int) := ⟨n.toNat, by omega⟩
      have hm : m ≤ rs.length := by omega
      have HE : Hid (ansP s.data.toList (m : Int) = ((sum16 (rs.take m) : Int), 0)) := by have := ansP_at HR.out (n := (m : Int)) (by omega) (by omega); rwa [Int.toNat_natCast] at this
      have hlt : (rs.take m).length = m := by simp; omega
      have HOk2 : Hid (∀ r ∈ rs.take m, okRune r) := fun r hr => HOk.out r (List.mem_of_mem_take hr)
      have hel := encAll_len (rs.take m)
      have HL : Hid (∀ w, Calls Tryd.prog 15 #[.string (strOf (encAll (rs.take m)))] w fun e w' => e = .returned (.int .i64 (sum16 (rs.take m) : Int)) ∧ Touch (fun _ => False) w w') := fun w => by
        have := ref_len16 (strOf (encAll (rs.take m))) (by rw [strOf_size]; omega) w
        rwa [strOf_list, rsOf_some (runesOf_enc _ HOk2.out)] at this
      have HConv : Hid (∀ c', (convert 25 9 (.slice a m c')).run Tryd.prog w1 = .ok (.string (strOf (encAll (rs.take m)))) w1) := by
        intro c'
        cases a with
        | none =>
          have : rs.take m = [] := by
            by_cases e : rs = []
            · rw [e]; simp
            · obtain ⟨g, hg, _⟩ := HRow.out.2.2 e; cases hg
          rw [this]; exact conv_none w1 m c'
        | some ad =>
          by_cases e : rs = []
          · have hz : m = 0 := by rw [e] at hm; simpa using hm
            subst hz
            obtain ⟨g, o, p⟩ := ad
            have := run_convert_runes (P := Tryd.prog) w1 25 9 21 ⟨g, o, p⟩ 0 c' [] (by simp) Tryd.underlying25 Tryd.underlying21 Tryd.underlying9 (fun j hj => by simp at hj)
            rw [this]; rfl
          · obtain ⟨g, hg, hc⟩ := HRow.out.2.2 e
            cases hg
            have := conv_mid w1 g 0 c' (rs.take m) HOk2.out (fun k hk => by rw [Nat.zero_add, hc k (by omega), List.getElem_take])
            rwa [hlt] at this
      clear hel
      generalize sum16 (rs.take m) = T at *
      have hcv := HConv.out c
      generalize strOf (encAll (rs.take m)) = X at *
      go_wp2_with fail
      refine (HL.out _).mono ?_
      rintro e w2 ⟨rfl, hT2⟩
      have HT2 : Hid (Touch (fun _ => False) w w2) := HT.out.trans hT2
      clear hT2
      go_wp2_with fail
      go_ret2
      exact ⟨ret2_of _ HE.out, HT2.out⟩

/-- The runes of a piece. -/
def cutR (rs : List Nat) (fr to : Int) : List Nat := (rs.take to.toNat).drop fr.toNat
def cutOf (l : List UInt8) (fr to : Int) : ByteArray := strOf (encAll (cutR (rsOf l) fr to))
theorem cutOf_nil (l : List UInt8) {fr to : Int} (h : (min to ((rsOf l).length : Int)) ≤ max fr 0) : cutOf l fr to = ⟨#[]⟩ := by
  unfold cutOf cutR
  rw [List.drop_eq_nil_of_le (by rw [List.length_take]; omega)]; rfl

set_option maxHeartbeats 1000000 in
theorem ref_cut (s : ByteArray) (hs : s.size ≤ 1000000) (fr to : Int) (w : World) : Calls Tryd.prog 19 #[.string s, .int .i64 fr, .int .i64 to] w fun e w' => e = .returned (.string (cutOf s.data.toList fr to)) ∧ Touch (fun _ => False) w w' := by
  have HR : Hid (Calls Tryd.prog 16 #[.string s] w (RunesAny s.data.toList w)) := ref_runes_any s (by omega) w
  have hln : (rsOf s.data.toList).length ≤ 1000000 := by have := rsOf_len s.data.toList; simp at this; omega
  have HOk : Hid (∀ r ∈ rsOf s.data.toList, okRune r) := rsOf_ok _
  have HC : Hid (cutOf s.data.toList fr to = strOf (encAll (cutR (rsOf s.data.toList) fr to))) := rfl
  have HC0 : Hid ((min to ((rsOf s.data.toList).length : Int)) ≤ max fr 0 → cutOf s.data.toList fr to = ⟨#[]⟩) := fun h => cutOf_nil _ h
  generalize cutOf s.data.toList fr to = C at *
  go_enter Tryd.func19, Tryd.ntmps19
  go_wp2_with fail
  refine HR.out.mono ?_
  rintro e w1 ⟨hT, a, c, rfl, hrow⟩
  have HT : Hid (Touch (fun _ => False) w w1) := hT
  have hcap := hrow.1
  have hmax := hrow.2.1
  have HRow : Hid (Row w1 a c (rsOf s.data.toList)) := hrow
  clear hT HR hrow
  generalize rsOf s.data.toList = rs at *
  generalize (runesOf s.data.toList).isSome = bb
  by_cases hle : (min to (rs.length : Int)) ≤ max fr 0
  · have HE : Hid (C = ⟨#[]⟩) := HC0.out hle
    have HLe : Hid ((min to (rs.length : Int)) ≤ max fr 0) := hle
    clear hle
    have hc4 : (0 ≤ fr ∨ fr < 0) ∧ (to ≤ (rs.length : Int) ∨ (rs.length : Int) < to) := by omega
    obtain ⟨h1 | h1, h2 | h2⟩ := hc4
    · have h3 : to ≤ fr := by have := HLe.out; omega
      go_wp2_with fail
      all_goals first | (exfalso; omega) | (go_ret; exact ⟨by rw [HE.out]; rfl, HT.out⟩)
    · have h3 : (rs.length : Int) ≤ fr := by have := HLe.out; omega
      go_wp2_with fail
      all_goals first | (exfalso; omega) | (go_ret; exact ⟨by rw [HE.out]; rfl, HT.out⟩)
    · have h3 : to ≤ 0 := by have := HLe.out; omega
      go_wp2_with fail
      all_goals first | (exfalso; omega) | (go_ret; exact ⟨by rw [HE.out]; rfl, HT.out⟩)
    · obtain rfl : rs = [] := List.eq_nil_of_length_eq_zero (by have := HLe.out; omega)
      clear HLe HOk HRow
      simp only [List.length_nil] at *
      go_wp2_with fail
      all_goals first | (exfalso; omega) | (go_ret; exact ⟨by rw [HE.out]; rfl, HT.out⟩)
  · have hne : rs ≠ [] := by intro e; subst e; simp at hle; omega
    obtain ⟨g, hg, hc⟩ := HRow.out.2.2 hne
    subst hg
    obtain ⟨F, hF⟩ : ∃ F : Nat, max fr 0 = (F : Int) := ⟨fr.toNat, by omega⟩
    obtain ⟨T, hT⟩ : ∃ T : Nat, min to (rs.length : Int) = (T : Int) := ⟨(min to (rs.length : Int)).toNat, by omega⟩
    have hcr : cutR rs fr to = (rs.take T).drop F := by
      unfold cutR
      rw [show fr.toNat = F from by omega]
      by_cases e : to.toNat ≤ rs.length
      · rw [show to.toNat = T from by omega]
      · rw [List.take_of_length_le (by omega), List.take_of_length_le (show rs.length ≤ T by omega)]
    have hFT : F < T := by omega
    have hTl : T ≤ rs.length := by omega
    have hl2 : ((rs.take T).drop F).length = T - F := by rw [List.length_drop, List.length_take]; omega
    have HConv : Hid (∀ c', (convert 25 9 (.slice (some ⟨g, F, none⟩) (T - F) c')).run Tryd.prog w1 = .ok (.string C) w1) := fun c' => by
      have := conv_mid w1 g F c' ((rs.take T).drop F) (fun r hr => HOk.out r (List.mem_of_mem_take (List.mem_of_mem_drop hr))) (fun k hk => by rw [hl2] at hk; rw [hc (F + k) (by omega), List.getElem_drop, List.getElem_take])
      rwa [hl2, ← hcr, ← HC.out] at this
    have HNe : Hid (rs ≠ []) := hne
    clear hc HRow HC HC0 hcr hl2 hne
    have HF : Hid (max fr 0 = (F : Int)) := hF
    have HTT : Hid (min to (rs.length : Int) = (T : Int)) := hT
    clear hF hT hle
    have hc4 : (0 ≤ fr ∨ fr < 0) ∧ (to ≤ (rs.length : Int) ∨ (rs.length : Int) < to) := by omega
    have hcv := HConv.out (c - F)
    obtain ⟨h1 | h1, h2 | h2⟩ := hc4
    · obtain rfl : fr = (F : Int) := by have := HF.out; omega
      obtain rfl : to = (T : Int) := by have := HTT.out; omega
      clear HF HTT
      go_wp2_with fail
      go_ret
      exact ⟨rfl, HT.out⟩
    · obtain rfl : fr = (F : Int) := by have := HF.out; omega
      obtain rfl : T = rs.length := by have := HTT.out; omega
      clear HF HTT
      go_wp2_with fail
      go_ret
      exact ⟨rfl, HT.out⟩
    · obtain rfl : F = 0 := by have := HF.out; omega
      obtain rfl : to = (T : Int) := by have := HTT.out; omega
      clear HF HTT
      simp only [Nat.sub_zero] at hcv
      go_wp2_with fail
      go_ret
      exact ⟨rfl, HT.out⟩
    · obtain rfl : F = 0 := by have := HF.out; omega
      obtain rfl : T = rs.length := by have := HTT.out; omega
      clear HF HTT
      simp only [Nat.sub_zero] at hcv
      have hne := HNe.out
      go_wp2_with fail
      go_ret
      exact ⟨rfl, HT.out⟩
end Go.Proofs.YteemjbnhiiadaaaDoor
