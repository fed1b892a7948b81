/- The contracts of value.Text and quireref2.Text, at every value that is taken. -/
import Derived.Test.YtaihofkmcpcjeaaDoorVText
import Derived.Test.YtaihofkmcpcjeaaDoorShelfI
import Derived.Test.YtaihofkmcpcjeaaDoorTextLaws2
import Derived.Test.YtaihofkmcpcjeaaDoorQuote
import Derived.Lib.LaidU8
import Derived.Lib.LaidTab
namespace Go.Proofs.YtaihofkmcpcjeaaDoor
open Go.RowKit
set_option linter.unusedVariables false
set_option linter.unusedSimpArgs false
set_option maxRecDepth 100000

/-- The table of powers lies as its initialiser lays it. -/
def TabsI (w : World) : Prop := Go.Lib.TabIs Tryd.prog w "internal/strconv.uint64pow10" .u64 Go.Lib.pow10Tab
theorem gPow : Tryd.prog.globalNamed "internal/strconv.uint64pow10" = some 3 := by kernel_rfl
theorem TabsI.keep {w w' : World} (h : TabsI w) (hT : Touch (fun _ => False) w w') : TabsI w' := by
  unfold TabsI Go.Lib.TabIs World.var? at *
  rw [gPow] at *
  simp only [Option.bind_some] at *
  cases hg : w.heap[3]? with
  | none => rw [hg] at h; cases h
  | some o =>
    rw [hT.block _ (lt_of_heap hg) id]; exact h
theorem tabsI_of {w : World} (h : Go.Lib.VarReads Tryd.prog w "internal/strconv.uint64pow10" (Go.Lib.tabData .u64 Go.Lib.pow10Tab)) : TabsI w := by
  obtain ⟨g, t, cs, fuel, p, hg, hty, hvar, hd⟩ := h
  obtain rfl := Option.some.inj (gPow.symm.trans hg)
  obtain rfl := Option.some.inj ((show (Tryd.prog.globals[3]?).map (·.type) = some 129 by kernel_rfl).symm.trans hty)
  unfold TabsI Go.Lib.TabIs
  rw [hvar, ← Go.Lib.cells_of_tab Tryd.underlying129 Tryd.underlying31 (by kernel_rfl) (by kernel_rfl) hd]
theorem touch_grow (w : World) (k : Nat) (os : Array Obj) : Touch (fun _ => False) w (Go.Sort.grow (w.drewN k) os) := by
  refine ⟨rfl, rfl, rfl, ?_, ?_⟩
  · show w.heap.size ≤ (w.heap ++ os).size
    simp
  · intro i hi _
    show (w.heap ++ os)[i]? = _
    rw [Array.getElem?_append_left hi]

theorem hexText_list (f : Nat) : hexText f = ⟨(102 :: hexGo (refBits f) 16).toArray⟩ := by
  unfold hexText
  apply ByteArray.ext
  simp

set_option maxHeartbeats 1000000 in
theorem v_text (v : V) (hv : v.taken) (hs : v.s.size ≤ 1000000000000) (w : World) (hT : TabsI w) : Calls Tryd.prog 32 #[v.val] w fun e w' => e = .returned (.string ⟨(textL v).toArray⟩) ∧ Touch (fun _ => False) w w' := by
  rcases hv.kind with e | e | e | e | e | e
  · have HE : Hid (textL v = [110, 117, 108, 108]) := by unfold textL; rw [Hid, if_pos e]
    obtain ⟨k, n, f, s⟩ := v
    simp only at e
    subst e
    simp only [V.val] at *
    generalize textL ⟨0, n, f, s⟩ = R at *
    go_enter Tryd.func32, Tryd.ntmps32
    go_wp2_with fail
    go_ret
    exact ⟨by rw [HE.out]; rfl, (Touch.refl _ _).alloc _⟩
  · have HE : Hid (textL v = if v.n = 1 then [116, 114, 117, 101] else [102, 97, 108, 115, 101]) := by unfold textL; rw [Hid, if_neg (by omega), if_pos e]
    have hb := hv.bool e
    obtain ⟨k, n, f, s⟩ := v
    simp only at e hb
    subst e
    simp only [V.val] at *
    generalize textL ⟨1, n, f, s⟩ = R at *
    clear hv
    rcases hb with e | e <;> subst e
    · have HF : Hid (R = [102, 97, 108, 115, 101]) := HE.out
      clear HE
      go_enter Tryd.func32, Tryd.ntmps32
      go_wp2
      go_ret
      exact ⟨by rw [HF.out]; rfl, (Touch.refl _ _).alloc _⟩
    · have HF : Hid (R = [116, 114, 117, 101]) := HE.out
      clear HE
      go_enter Tryd.func32, Tryd.ntmps32
      go_wp2
      go_ret
      exact ⟨by rw [HF.out]; rfl, (Touch.refl _ _).alloc _⟩
  · have HE : Hid (textL v = Go.Lib.itoa v.n) := by unfold textL; rw [Hid, if_neg (by omega), if_neg (by omega), if_pos e]
    have HI : Hid (∀ w, TabsI w → Calls Tryd.prog 66 #[.int .i64 v.n, .int .i64 10] w fun e w' => e = .returned (.string ⟨(Go.Lib.itoa v.n).toArray⟩) ∧ Touch (fun _ => False) w w') := by
      intro w h
      refine (Tryd.strconv_FormatInt_10 v.n hv.fit.n0 (by have := hv.fit.n1; omega) w h).mono ?_
      rintro e w' ⟨rfl, k, os, rfl⟩
      exact ⟨rfl, touch_grow _ _ _⟩
    obtain ⟨k, n, f, s⟩ := v
    simp only at e
    subst e
    simp only [V.val] at *
    have HU : Hid (TabsI w) := hT
    generalize textL ⟨2, n, f, s⟩ = R at *
    generalize Go.Lib.itoa n = I at *
    clear hv hT
    go_enter Tryd.func32, Tryd.ntmps32
    go_wp2_with fail
    refine (HI.out _ (HU.out.keep ((Touch.refl _ _).alloc _))).mono ?_
    rintro e w1 ⟨rfl, hT⟩
    have HT : Hid (Touch (fun _ => False) w w1) := Touch.trans ((Touch.refl _ _).alloc _) hT
    clear hT
    go_wp2_with fail
    go_ret
    exact ⟨by rw [HE.out]; rfl, HT.out⟩
  · have h := v_text_float v e hv.fit.f1 w
    rw [hexText_list] at h
    have : textL v = 102 :: hexGo (refBits v.f) 16 := by unfold textL; rw [if_neg (by omega), if_neg (by omega), if_neg (by omega), if_pos e]
    rw [this]; exact h
  · have h := v_text_text v e hs w
    have : textL v = 34 :: quoteGo v.s.data.toList ++ [34] := by unfold textL; rw [if_neg (by omega), if_neg (by omega), if_neg (by omega), if_neg (by omega), if_pos e]
    rw [this]; exact h
  · have HE : Hid (textL v = [109, 97, 112]) := by unfold textL; rw [Hid, if_neg (by omega), if_neg (by omega), if_neg (by omega), if_neg (by omega), if_neg (by omega)]
    obtain ⟨k, n, f, s⟩ := v
    simp only at e
    subst e
    simp only [V.val] at *
    generalize textL ⟨5, n, f, s⟩ = R at *
    go_enter Tryd.func32, Tryd.ntmps32
    go_wp2_with fail
    go_ret
    exact ⟨by rw [HE.out]; rfl, (Touch.refl _ _).alloc _⟩

theorem hex_cut (d : Nat) (h : d < 16) : (ByteArray.mk #[48, 49, 50, 51, 52, 53, 54, 55, 56, 57, 97, 98, 99, 100, 101, 102]).extract d (d + 1) = ⟨#[hexDigits.getD d 0]⟩ := by
  have : ∀ d : Fin 16, (ByteArray.mk #[48, 49, 50, 51, 52, 53, 54, 55, 56, 57, 97, 98, 99, 100, 101, 102]).extract d.1 (d.1 + 1) = ⟨#[hexDigits.getD d.1 0]⟩ := by decide +kernel
  exact this ⟨d, h⟩

set_option maxHeartbeats 1000000 in
theorem ref_text_float (n : Int) (f : Nat) (s : ByteArray) (hf : f < 18446744073709551616) (w : World) : Calls Tryd.prog 33 #[.agg #[.int .i64 3, .int .i64 n, .float .f64 f, .string s]] w fun e w' => e = .returned (.string ⟨(102 :: hexGo (refBits f) 16).toArray⟩) ∧ Touch (fun _ => False) w w' := by
  have HN : Hid (∀ w, Calls Tryd.prog 56 #[.float .f64 f] w fun e w' => e = .returned (.int .u64 (refBits f)) ∧ w' = w) := ref_bits f
  have hg := refBits_lt f hf
  generalize refBits f = g at *
  have HW : Hid (Touch (fun _ => False) w (w.alloc (.cells #[.int .i64 3, .int .i64 n, .float .f64 f, .string s] 24))) := (Touch.refl _ _).alloc _
  go_enter Tryd.func33, Tryd.ntmps33
  go_wp2_with fail
  go_loopw [3, 4] (fun a b wr => ∃ k : Nat, b = .int .i64 (60 - 4 * (k : Int)) ∧ k ≤ 16 ∧ a = .string ⟨(102 :: hexGo g k).toArray⟩ ∧ wr = w.alloc (.cells #[.int .i64 3, .int .i64 n, .float .f64 f, .string s] 24)) (fun _ b _ => (intOf b + 4).toNat)
  case atStart => exact ⟨0, rfl, by omega, rfl, rfl⟩
  case round =>
    obtain ⟨k, rfl, hk, rfl, rfl⟩ := hrel
    by_cases h16 : k = 16
    · subst h16
      go_wp2_with fail
      go_ret
      exact ⟨rfl, HW.out⟩
    · have hd := hex_nibble g k hg (by omega)
      have hlt : g / 16 ^ (15 - k) % 16 < 16 := Nat.mod_lt _ (by decide)
      have HC := hex_cut _ hlt
      have HN2 : Hid (hexGo g (k + 1) = hexGo g k ++ [hexDigits.getD (g / 16 ^ (15 - k) % 16) 0]) := hexGo_succ g k
      have hsz : (ByteArray.mk (102 :: hexGo g k).toArray).size = k + 1 := by
        show (102 :: hexGo g k).toArray.size = k + 1
        rw [List.size_toArray, List.length_cons, hexGo_length]
      generalize g / 16 ^ (15 - k) % 16 = d at *
      have HX : Hid (ByteArray.mk (102 :: hexGo g k).toArray ++ ⟨#[hexDigits.getD d 0]⟩ = ⟨(102 :: hexGo g (k + 1)).toArray⟩) := by
        rw [Hid, HN2.out]
        apply ByteArray.ext
        simp
      have HCut : Hid ((ByteArray.mk #[48, 49, 50, 51, 52, 53, 54, 55, 56, 57, 97, 98, 99, 100, 101, 102]).extract d (d + 1) = ⟨#[hexDigits.getD d 0]⟩) := HC
      clear HC
      generalize ByteArray.mk (102 :: hexGo g k).toArray = T at *
      have hd0 : (0 : Int) ≤ (d : Int) := by omega
      have hd1 : (d : Int) < 16 := by omega
      go_wp2_with fail
      refine (HN.out _).mono ?_
      rintro e w1 ⟨rfl, rfl⟩
      go_wp2_with fail
      simp only [HCut.out, HX.out]
      go_roundw
      case rel => exact ⟨k + 1, by go_num, by omega, rfl, trivial⟩
      case measure => simp [intOf]; omega

set_option maxHeartbeats 1000000 in
theorem ref_text (v : V) (hv : v.taken) (hs : v.s.size ≤ 1000000000000) (w : World) : Calls Tryd.prog 33 #[v.val] w fun e w' => e = .returned (.string ⟨(textL v).toArray⟩) ∧ Touch (fun _ => False) w w' := by
  rcases hv.kind with e | e | e | e | e | e
  · have HE : Hid (textL v = [110, 117, 108, 108]) := by unfold textL; rw [Hid, if_pos e]
    obtain ⟨k, n, f, s⟩ := v
    simp only at e
    subst e
    simp only [V.val] at *
    generalize textL ⟨0, n, f, s⟩ = R at *
    go_enter Tryd.func33, Tryd.ntmps33
    go_wp2_with fail
    go_ret
    exact ⟨by rw [HE.out]; rfl, (Touch.refl _ _).alloc _⟩
  · have HE : Hid (textL v = if v.n = 1 then [116, 114, 117, 101] else [102, 97, 108, 115, 101]) := by unfold textL; rw [Hid, if_neg (by omega), if_pos e]
    have hb := hv.bool e
    obtain ⟨k, n, f, s⟩ := v
    simp only at e hb
    subst e
    simp only [V.val] at *
    generalize textL ⟨1, n, f, s⟩ = R at *
    clear hv
    rcases hb with e | e <;> subst e
    · have HF : Hid (R = [102, 97, 108, 115, 101]) := HE.out
      clear HE
      go_enter Tryd.func33, Tryd.ntmps33
      go_wp2_with fail
      go_ret
      exact ⟨by rw [HF.out]; rfl, (Touch.refl _ _).alloc _⟩
    · have HF : Hid (R = [116, 114, 117, 101]) := HE.out
      clear HE
      go_enter Tryd.func33, Tryd.ntmps33
      go_wp2_with fail
      go_ret
      exact ⟨by rw [HF.out]; rfl, (Touch.refl _ _).alloc _⟩
  · have HE : Hid (ByteArray.mk (textL v).toArray = refDec v.n) := by unfold textL; rw [Hid, if_neg (by omega), if_neg (by omega), if_pos e, refDec_itoa _ hv.fit.n0 hv.fit.n1]
    have HI : Hid (∀ w, Calls Tryd.prog 69 #[.int .i64 v.n] w fun e w' => e = .returned (.string (refDec v.n)) ∧ w' = w) := ref_dec v.n hv.fit.n0 hv.fit.n1
    obtain ⟨k, n, f, s⟩ := v
    simp only at e
    subst e
    simp only [V.val] at *
    generalize ByteArray.mk (textL ⟨2, n, f, s⟩).toArray = R at *
    generalize refDec n = I at *
    clear hv
    go_enter Tryd.func33, Tryd.ntmps33
    go_wp2_with fail
    refine (HI.out _).mono ?_
    rintro e w1 ⟨rfl, rfl⟩
    go_wp2_with fail
    go_ret
    exact ⟨by rw [HE.out]; rfl, (Touch.refl _ _).alloc _⟩
  · have : textL v = 102 :: hexGo (refBits v.f) 16 := by unfold textL; rw [if_neg (by omega), if_neg (by omega), if_neg (by omega), if_pos e]
    rw [this]
    obtain ⟨k, n, f, s⟩ := v
    simp only at e
    subst e
    exact ref_text_float n f s hv.fit.f1 w
  · have HE : Hid (ByteArray.mk (textL v).toArray = refQuote v.s) := by unfold textL; rw [Hid, if_neg (by omega), if_neg (by omega), if_neg (by omega), if_neg (by omega), if_pos e]; rfl
    have HQ : Hid (∀ w, Calls Tryd.prog 70 #[.string v.s] w fun e w' => e = .returned (.string (refQuote v.s)) ∧ Touch (fun _ => False) w w') := ref_quote v.s hs
    obtain ⟨k, n, f, s⟩ := v
    simp only at e
    subst e
    simp only [V.val] at *
    generalize ByteArray.mk (textL ⟨4, n, f, s⟩).toArray = R at *
    generalize refQuote s = I at *
    clear hv
    go_enter Tryd.func33, Tryd.ntmps33
    go_wp2_with fail
    refine (HQ.out _).mono ?_
    rintro e w1 ⟨rfl, hT⟩
    have HT : Hid (Touch (fun _ => False) w w1) := Touch.trans ((Touch.refl _ _).alloc _) hT
    clear hT
    go_wp2_with fail
    go_ret
    exact ⟨by rw [HE.out]; rfl, HT.out⟩
  · have HE : Hid (textL v = [109, 97, 112]) := by unfold textL; rw [Hid, if_neg (by omega), if_neg (by omega), if_neg (by omega), if_neg (by omega), if_neg (by omega)]
    obtain ⟨k, n, f, s⟩ := v
    simp only at e
    subst e
    simp only [V.val] at *
    generalize textL ⟨5, n, f, s⟩ = R at *
    go_enter Tryd.func33, Tryd.ntmps33
    go_wp2_with fail
    go_ret
    exact ⟨by rw [HE.out]; rfl, (Touch.refl _ _).alloc _⟩
end Go.Proofs.YtaihofkmcpcjeaaDoor
