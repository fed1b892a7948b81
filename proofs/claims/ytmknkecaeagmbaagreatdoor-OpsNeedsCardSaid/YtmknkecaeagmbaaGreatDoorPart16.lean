/- The contracts of quireref3.PlaceOf, Cut. -/
import Derived.Test.YtmknkecaeagmbaaGreatDoorPart15
import Derived.Shelf.LaysM
import Derived.Shelf.Strconv.Clone
import Derived.Test.YtmknkecaeagmbaaGreatDoorProg
namespace Go.Proofs.YtmknkecaeagmbaaGreatDoor
open Go.RowKit
set_option linter.unusedVariables false
set_option maxRecDepth 100000

/-- A slice of runes, turned into a string. -/
theorem conv_mid (w : World) (g o cap : Nat) (rs : List Nat) (ok : ∀ r ∈ rs, okRune r) (hc : ∀ k, (h : k < rs.length) → w.cell? ⟨g, o + k, none⟩ = some (.int .i32 (rs[k] : Int))) :
    (convert 72 9 (.slice (some ⟨g, o, none⟩) rs.length cap)).run Tryz.prog w = .ok (.string (strOf (encAll rs))) w := by
  have := run_convert_runes (P := Tryz.prog) w 72 9 21 ⟨g, o, none⟩ rs.length cap (rs.map fun r : Nat => (r : Int)) (by simp) Tryz.underlying72 Tryz.underlying21 Tryz.underlying9 (fun j hj => by
    rw [List.length_map] at hj
    have ha : (⟨g, o, none⟩ : Addr).add j = ⟨g, o + j, none⟩ := by
      unfold Addr.add
      by_cases e : j = 0
      · rw [if_pos e, e]; rfl
      · rw [if_neg e]
    rw [ha, hc j hj]
    simp [List.getD, hj])
  rw [this, List.take_of_length_le (by simp), runes_str rs ok]
theorem conv_none (w : World) (l c : Nat) : (convert 72 9 (.slice none l c)).run Tryz.prog w = .ok (.string (strOf (encAll []))) w := by
  rw [run_convert_runes_nil w _ _ 21 l c Tryz.underlying72 Tryz.underlying21 Tryz.underlying9]
  rfl

/-- The runes of a piece. -/
def cutR (rs : List Nat) (fr til : Int) : List Nat := (rs.take til.toNat).drop fr.toNat
def cutOf (l : List UInt8) (fr til : Int) : ByteArray := strOf (encAll (cutR (rsOf l) fr til))
theorem cutOf_nil (l : List UInt8) {fr til : Int} (h : (min til ((rsOf l).length : Int)) ≤ max fr 0) : cutOf l fr til = ⟨#[]⟩ := by
  unfold cutOf cutR
  rw [List.drop_eq_nil_of_le (by rw [List.length_take]; omega)]; rfl

set_option maxHeartbeats 1000000 in
theorem ref_cut (s : ByteArray) (hs : s.size ≤ 1000000) (fr til : Int) (w : World) : Calls Tryz.prog 47 #[.string s, .int .i64 fr, .int .i64 til] w fun e w' => e = .returned (.string (cutOf s.data.toList fr til)) ∧ Touch (fun _ => False) w w' := by
  have HR : Hid (Calls Tryz.prog 58 #[.string s] w (RunesAny s.data.toList w)) := ref_runes_any s (by omega) w
  have hln : (rsOf s.data.toList).length ≤ 1000000 := by have := rsOf_len s.data.toList; simp at this; omega
  have HOk : Hid (∀ r ∈ rsOf s.data.toList, okRune r) := rsOf_ok _
  have HC : Hid (cutOf s.data.toList fr til = strOf (encAll (cutR (rsOf s.data.toList) fr til))) := rfl
  have HC0 : Hid ((min til ((rsOf s.data.toList).length : Int)) ≤ max fr 0 → cutOf s.data.toList fr til = ⟨#[]⟩) := fun h => cutOf_nil _ h
  generalize cutOf s.data.toList fr til = C at *
  go_enter Tryz.func47, Tryz.ntmps47
  go_wp2_with fail
  refine HR.out.mono ?_
  rintro e w1 ⟨hT, a, c, rfl, hrow⟩
  have HT : Hid (Touch (fun _ => False) w w1) := hT
  have hcap := hrow.1
  have hmax := hrow.2.1
  have HRow : Hid (Row w1 a c (rsOf s.data.toList)) := hrow
  clear hT HR hrow
  generalize rsOf s.data.toList = rs at *
  generalize (runesOf s.data.toList).isSome = bb
  by_cases hle : (min til (rs.length : Int)) ≤ max fr 0
  · have HE : Hid (C = ⟨#[]⟩) := HC0.out hle
    have HLe : Hid ((min til (rs.length : Int)) ≤ max fr 0) := hle
    clear hle
    have hc4 : (0 ≤ fr ∨ fr < 0) ∧ (til ≤ (rs.length : Int) ∨ (rs.length : Int) < til) := by omega
    obtain ⟨h1 | h1, h2 | h2⟩ := hc4
    · have h3 : til ≤ fr := by have := HLe.out; omega
      go_wp2_with fail
      all_goals first | (exfalso; omega) | (go_ret; exact ⟨by rw [HE.out]; rfl, HT.out⟩)
    · have h3 : (rs.length : Int) ≤ fr := by have := HLe.out; omega
      go_wp2_with fail
      all_goals first | (exfalso; omega) | (go_ret; exact ⟨by rw [HE.out]; rfl, HT.out⟩)
    · have h3 : til ≤ 0 := by have := HLe.out; omega
      go_wp2_with fail
      all_goals first | (exfalso; omega) | (go_ret; exact ⟨by rw [HE.out]; rfl, HT.out⟩)
    · obtain rfl : rs = [] := List.eq_nil_of_length_eq_zero (by have := HLe.out; omega)
      clear HLe HOk HRow
      simp only [List.length_nil] at *
      go_wp2_with fail
      all_goals first | (exfalso; omega) | (go_ret; exact ⟨by rw [HE.out]; rfl, HT.out⟩)
  · have hne : rs ≠ [] := by intro e; subst e; simp at hle; omega
    obtain ⟨g, hg, hc⟩ := HRow.out.2.2 hne
    subst hg
    obtain ⟨F, hF⟩ : ∃ F : Nat, max fr 0 = (F : Int) := ⟨fr.toNat, by omega⟩
    obtain ⟨T, hT⟩ : ∃ T : Nat, min til (rs.length : Int) = (T : Int) := ⟨(min til (rs.length : Int)).toNat, by omega⟩
    have hcr : cutR rs fr til = (rs.take T).drop F := by
      unfold cutR
      rw [show fr.toNat = F from by omega]
      by_cases e : til.toNat ≤ rs.length
      · rw [show til.toNat = T from by omega]
      · rw [List.take_of_length_le (by omega), List.take_of_length_le (show rs.length ≤ T by omega)]
    have hFT : F < T := by omega
    have hTl : T ≤ rs.length := by omega
    have hl2 : ((rs.take T).drop F).length = T - F := by rw [List.length_drop, List.length_take]; omega
    have HConv : Hid (∀ c', (convert 72 9 (.slice (some ⟨g, F, none⟩) (T - F) c')).run Tryz.prog w1 = .ok (.string C) w1) := fun c' => by
      have := conv_mid w1 g F c' ((rs.take T).drop F) (fun r hr => HOk.out r (List.mem_of_mem_take (List.mem_of_mem_drop hr))) (fun k hk => by rw [hl2] at hk; rw [hc (F + k) (by omega), List.getElem_drop, List.getElem_take])
      rwa [hl2, ← hcr, ← HC.out] at this
    have HNe : Hid (rs ≠ []) := hne
    clear hc HRow HC HC0 hcr hl2 hne
    have HF : Hid (max fr 0 = (F : Int)) := hF
    have HTT : Hid (min til (rs.length : Int) = (T : Int)) := hT
    clear hF hT hle
    have hc4 : (0 ≤ fr ∨ fr < 0) ∧ (til ≤ (rs.length : Int) ∨ (rs.length : Int) < til) := by omega
    have hcv := HConv.out (c - F)
    obtain ⟨h1 | h1, h2 | h2⟩ := hc4
    · obtain rfl : fr = (F : Int) := by have := HF.out; omega
      obtain rfl : til = (T : Int) := by have := HTT.out; omega
      clear HF HTT
      go_wp2_with fail
      go_ret
      exact ⟨rfl, HT.out⟩
    · obtain rfl : fr = (F : Int) := by have := HF.out; omega
      obtain rfl : T = rs.length := by have := HTT.out; omega
      clear HF HTT
      go_wp2_with fail
      go_ret
      exact ⟨rfl, HT.out⟩
    · obtain rfl : F = 0 := by have := HF.out; omega
      obtain rfl : til = (T : Int) := by have := HTT.out; omega
      clear HF HTT
      simp only [Nat.sub_zero] at hcv
      go_wp2_with fail
      go_ret
      exact ⟨rfl, HT.out⟩
    · obtain rfl : F = 0 := by have := HF.out; omega
      obtain rfl : T = rs.length := by have := HTT.out; omega
      clear HF HTT
      simp only [Nat.sub_zero] at hcv
      have hne := HNe.out
      go_wp2_with fail
      go_ret
      exact ⟨rfl, HT.out⟩
end Go.Proofs.YtmknkecaeagmbaaGreatDoor

/- The library's contracts that value's functions call, laid at this program. -/
namespace Go.Proofs
open Go.Shelf
def Tryz.laysM316_ren : Go.Shelf.Ren := ⟨fun | 316 => 98 | n => n, fun | 9 => 9 | 3 => 3 | 4 => 4 | 37 => 52 | 0 => 0 | 127 => 111 | 5 => 5 | n => n, fun | n => n⟩
theorem Tryz.laysM316 : Go.Proofs.LaysM.n316 Tryz.prog Tryz.laysM316_ren := {
  mixed := by kernel_rfl
  f316 := Tryz.func98.trans (congrArg some (by kernel_rfl))
  t0 := Tryz.underlying0
  a0 := Tryz.isAgg0
  z0 := Tryz.sizeOf0
  v0 := Tryz.zeroValue0
  t3 := Tryz.underlying3
  a3 := Tryz.isAgg3
  z3 := Tryz.sizeOf3
  v3 := Tryz.zeroValue3
  t4 := Tryz.underlying4
  a4 := Tryz.isAgg4
  z4 := Tryz.sizeOf4
  v4 := Tryz.zeroValue4
  t9 := Tryz.underlying9
  a9 := Tryz.isAgg9
  z9 := Tryz.sizeOf9
  v9 := Tryz.zeroValue9
  t37 := Tryz.underlying52
  a37 := Tryz.isAgg52
  z37 := Tryz.sizeOf52
  v37 := Tryz.zeroValue52
  t127 := Tryz.underlying111
  a127 := Tryz.isAgg111
  z127 := Tryz.sizeOf111
  v127 := Tryz.zeroValue111
  t5 := Tryz.underlying5
  a5 := Tryz.isAgg5
  z5 := Tryz.sizeOf5
  v5 := Tryz.zeroValue5
  i0 := by kernel_rfl
  i3 := by kernel_rfl
  i4 := by kernel_rfl
  i5 := by kernel_rfl
  i9 := by kernel_rfl
  i37 := by kernel_rfl
  i127 := by kernel_rfl }
open Go.RowKit in
theorem Tryz.stringslite_Clone (s : ByteArray) (w : World) (hlim : s.size ≤ 281474976710656) :
    Calls Tryz.prog 98 #[.string s] w fun e w' => e = .returned (.string s) ∧ Below w.heap.size w w' := Any.stringslite_Clone Tryz.laysM316 s w hlim
end Go.Proofs

/- The contract of utf.Cut. -/
namespace Go.Proofs.YtmknkecaeagmbaaGreatDoor
open Go.RowKit Go.Shelf
set_option linter.unusedVariables false
set_option maxRecDepth 100000
attribute [local go_sem] Oper.semAt_some

/-- Where a piece ends, and begins, in bytes, behind some rounds. -/
def cEnd (l : List (Nat × Nat)) : Int := l.foldl (fun a x => a + Go.Lib.runeLen (x.2 : Int)) 0
def cBeg (fr : Int) (l : List (Nat × Nat)) : Int := (l.foldl (fun (p : Int × Int) x => (if (x.1 : Int) < fr then p.2 + Go.Lib.runeLen (x.2 : Int) else p.1, p.2 + Go.Lib.runeLen (x.2 : Int))) (0, 0)).1
theorem cPair (fr : Int) (l : List (Nat × Nat)) : (l.foldl (fun (p : Int × Int) x => (if (x.1 : Int) < fr then p.2 + Go.Lib.runeLen (x.2 : Int) else p.1, p.2 + Go.Lib.runeLen (x.2 : Int))) (0, 0)) = (cBeg fr l, cEnd l) := by
  have h : ∀ (l : List (Nat × Nat)) (a b : Int), (l.foldl (fun (p : Int × Int) x => (if (x.1 : Int) < fr then p.2 + Go.Lib.runeLen (x.2 : Int) else p.1, p.2 + Go.Lib.runeLen (x.2 : Int))) (a, b)).2 = l.foldl (fun a x => a + Go.Lib.runeLen (x.2 : Int)) b := by
    intro l
    induction l with
    | nil => intro a b; rfl
    | cons x l ih => intro a b; simp only [List.foldl_cons]; rw [ih]
  exact Prod.ext rfl (h l 0 0)
theorem cEnd_snoc (l : List (Nat × Nat)) (x : Nat × Nat) : cEnd (l ++ [x]) = cEnd l + Go.Lib.runeLen (x.2 : Int) := by simp [cEnd]
theorem cBeg_snoc (fr : Int) (l : List (Nat × Nat)) (x : Nat × Nat) : cBeg fr (l ++ [x]) = if (x.1 : Int) < fr then cEnd l + Go.Lib.runeLen (x.2 : Int) else cBeg fr l := by
  have h := cPair fr l
  unfold cBeg at h ⊢
  rw [List.foldl_append, h]
  simp only [List.foldl_cons, List.foldl_nil]
theorem runeLen_bd (r : Int) : -1 ≤ Go.Lib.runeLen r ∧ Go.Lib.runeLen r ≤ 4 := by
  unfold Go.Lib.runeLen
  repeat' split
  all_goals omega
theorem snoc_induct {α : Type} {p : List α → Prop} (h0 : p []) (h1 : ∀ l x, p l → p (l ++ [x])) (l : List α) : p l := by
  have : ∀ n (l : List α), l.length = n → p l := by
    intro n
    induction n with
    | zero => intro l h; rw [List.eq_nil_of_length_eq_zero h]; exact h0
    | succ n ih =>
      intro l h
      have hne : l ≠ [] := by intro e; rw [e] at h; simp at h
      rw [← List.dropLast_concat_getLast hne]
      exact h1 _ _ (ih _ (by simp; omega))
  exact this _ l rfl
theorem cEnd_bd (l : List (Nat × Nat)) : -(l.length : Int) ≤ cEnd l ∧ cEnd l ≤ 4 * (l.length : Int) := by
  induction l using snoc_induct with
  | h0 => simp [cEnd]
  | h1 l x ih =>
    have := runeLen_bd (x.2 : Int)
    rw [cEnd_snoc, List.length_append, List.length_singleton]
    omega
theorem cEnd_enum (l : List Nat) (ok : ∀ r ∈ l, okRune r) : cEnd (enumR 0 l) = ((encAll l).length : Int) := by
  induction l using snoc_induct with
  | h0 => rfl
  | h1 l r ih =>
    rw [enumR_snoc, cEnd_snoc, ih (fun x hx => ok x (by simp [hx])), encAll_append, runeLen_enc r (ok r (by simp))]
    simp [encAll]
theorem cBeg_enum (fr : Int) (l : List Nat) (ok : ∀ r ∈ l, okRune r) : cBeg fr (enumR 0 l) = ((encAll (l.take fr.toNat)).length : Int) := by
  induction l using snoc_induct with
  | h0 => simp [cBeg, enumR, encAll]
  | h1 l r ih =>
    rw [enumR_snoc, cBeg_snoc, ih (fun x hx => ok x (by simp [hx])), cEnd_enum l (fun x hx => ok x (by simp [hx])), runeLen_enc r (ok r (by simp))]
    by_cases h : (l.length : Int) < fr
    · rw [if_pos h, List.take_of_length_le (by simp; omega), encAll_append]
      simp [encAll]
    · rw [if_neg h, List.take_append_of_le_length (by omega)]
/-- No round has been at til or above. -/
def Low (tt : Int) (pre : List (Nat × Nat)) : Prop := ∀ y ∈ pre, (y.1 : Int) < tt
theorem low_snoc {tt : Int} {pre : List (Nat × Nat)} {x : Nat × Nat} (h : Low tt pre) (hx : (x.1 : Int) < tt) : Low tt (pre ++ [x]) := by
  intro y hy
  rcases List.mem_append.1 hy with e | e
  · exact h y e
  · rw [List.mem_singleton] at e; rw [e]; exact hx
theorem enumR_mem (k : Nat) (l : List Nat) (j : Nat) (hj : j < l.length) : (k + j, l[j]) ∈ enumR k l := by
  induction l generalizing k j with
  | nil => simp at hj
  | cons r l ih =>
    cases j with
    | zero => simp [enumR]
    | succ j => have := ih (k + 1) j (by simp at hj; omega); simp only [enumR, List.mem_cons, List.getElem_cons_succ]; right; rw [show k + (j + 1) = k + 1 + j from by omega]; exact this
/-- What the loop has gone through when it ends. -/
theorem cut_end {tt : Int} {rs : List Nat} (h : Low tt (enumR 0 rs)) : rs.take tt.toNat = rs := by
  by_cases e : rs.length ≤ tt.toNat
  · exact List.take_of_length_le e
  · have := h _ (enumR_mem 0 rs (rs.length - 1) (by omega))
    simp only at this
    omega
theorem cut_mid {tt : Int} {rs : List Nat} {pre : List (Nat × Nat)} {x : Nat × Nat} (hp : pre ++ [x] <+: enumR 0 rs) (h : Low tt pre) (hx : tt ≤ (x.1 : Int)) : pre = enumR 0 (rs.take tt.toNat) := by
  have hp' : pre <+: enumR 0 rs := (List.prefix_append _ _).trans hp
  have ht : pre = (enumR 0 rs).take pre.length := List.prefix_iff_eq_take.1 hp'
  have hl := hp.length_le
  rw [enumR_len, List.length_append, List.length_singleton] at hl
  have ht2 : pre ++ [x] = (enumR 0 rs).take (pre.length + 1) := by have := List.prefix_iff_eq_take.1 hp; rwa [List.length_append, List.length_singleton] at this
  rw [enumR_take] at ht ht2
  have hx1 : x.1 = pre.length := by
    rw [List.take_succ_eq_append_getElem (show pre.length < rs.length by omega), enumR_snoc, ← ht] at ht2
    have := List.append_cancel_left ht2
    rw [List.cons.injEq] at this
    rw [this.1, List.length_take]; simp only; omega
  have hpl : pre.length = tt.toNat := by
    by_cases e : pre.length = 0
    · omega
    · have := h (pre.length - 1, (rs.take pre.length)[pre.length - 1]'(by rw [List.length_take]; omega)) (by
        have := enumR_mem 0 (rs.take pre.length) (pre.length - 1) (by rw [List.length_take]; omega)
        rw [← ht, Nat.zero_add] at this
        exact this)
      simp only at this
      omega
  rw [hpl] at ht
  exact ht
/-- The bytes between. -/
theorem cut_bytes (s : ByteArray) (fr tt : Int) : (encAll (((rsOf s.data.toList).take tt.toNat).take fr.toNat)).length ≤ (encAll ((rsOf s.data.toList).take tt.toNat)).length ∧ (encAll ((rsOf s.data.toList).take tt.toNat)).length ≤ s.size ∧
    s.extract (encAll (((rsOf s.data.toList).take tt.toNat).take fr.toNat)).length (encAll ((rsOf s.data.toList).take tt.toNat)).length = cutOf s.data.toList fr tt := by
  have hsl : s.data.toList.length = s.size := by simp
  generalize hrs : rsOf s.data.toList = rs
  have hs : runesOf s.data.toList = none ∧ rs = [] ∨ encAll rs = s.data.toList := by
    cases h : runesOf s.data.toList with
    | none => rw [rsOf_none h] at hrs; exact .inl ⟨rfl, hrs.symm⟩
    | some r => rw [rsOf_some h] at hrs; subst hrs; exact .inr (enc_runesOf r _ h).2
  have h1 : encAll (rs.take tt.toNat) = encAll ((rs.take tt.toNat).take fr.toNat) ++ encAll ((rs.take tt.toNat).drop fr.toNat) := by rw [← encAll_append, List.take_append_drop]
  have h2 : encAll rs = encAll (rs.take tt.toNat) ++ encAll (rs.drop tt.toNat) := by rw [← encAll_append, List.take_append_drop]
  have hle : (encAll (rs.take tt.toNat)).length ≤ s.size := by
    rcases hs with ⟨_, e⟩ | e
    · rw [e]; simp [encAll]
    · rw [← hsl, ← e, h2, List.length_append]; omega
  refine ⟨by rw [h1, List.length_append]; omega, hle, ?_⟩
  unfold cutOf cutR
  rw [hrs]
  apply bytes_ext
  rw [Go.Lib.extract_data, strOf_list]
  rcases hs with ⟨_, e⟩ | e
  · rw [e]; simp [encAll]
  · rw [← e, h2, h1]
    rw [List.append_assoc, List.drop_left, List.take_append_of_le_length (by rw [List.length_append]; omega)]
    rw [List.take_of_length_le (by rw [List.length_append]; omega)]

theorem clone_any (s : ByteArray) (hs : s.size ≤ 281474976710656) (w : World) : Calls Tryz.prog 72 #[.string s] w fun e w' => e = .returned (.string s) ∧ Touch (fun _ => False) w w' := by
  have HC : Hid (Calls Tryz.prog 98 #[.string s] w fun e w' => e = .returned (.string s) ∧ Below w.heap.size w w') := Tryz.stringslite_Clone s w hs
  go_enter Tryz.func72, Tryz.ntmps72
  go_wp2_with fail
  refine HC.out.mono ?_
  rintro e w1 ⟨rfl, hB⟩
  go_wp2_with fail
  go_ret
  exact ⟨rfl, Touch.ofBelow hB⟩
end Go.Proofs.YtmknkecaeagmbaaGreatDoor
