/- The contracts of value.Text and quireref2.Text, at every value that is taken. -/
import Derived.Test.YtijkekkjiboomaaGreatDoorPart22
import Derived.Test.YtijkekkjiboomaaGreatDoorPart10
import Derived.Test.YtijkekkjiboomaaGreatDoorQuote
import Derived.Lib.LaidU8
import Derived.Lib.LaidTab
import Derived.Test.YtijkekkjiboomaaGreatDoorPart21
import Derived.Test.YtijkekkjiboomaaGreatDoorRowZ
import Derived.Test.YtijkekkjiboomaaGreatDoorPart17
namespace Go.Proofs.YtijkekkjiboomaaGreatDoor
open Go.RowKit
set_option linter.unusedVariables false
set_option linter.unusedSimpArgs false
set_option maxRecDepth 100000

/-- The table of powers lies as its initialiser lays it. -/
def TabsI (w : World) : Prop := Go.Lib.TabIs Tryz.prog w "internal/strconv.uint64pow10" .u64 Go.Lib.pow10Tab
theorem gPow : Tryz.prog.globalNamed "internal/strconv.uint64pow10" = some 3 := by kernel_rfl
theorem TabsI.keep {w w' : World} (h : TabsI w) (hT : Touch (fun _ => False) w w') : TabsI w' := by
  unfold TabsI Go.Lib.TabIs World.var? at *
  rw [gPow] at *
  simp only [Option.bind_some] at *
  cases hg : w.heap[3]? with
  | none => rw [hg] at h; cases h
  | some o =>
    rw [hT.block _ (lt_of_heap hg) id]; exact h
theorem tabsI_of {w : World} (h : Go.Lib.VarReads Tryz.prog w "internal/strconv.uint64pow10" (Go.Lib.tabData .u64 Go.Lib.pow10Tab)) : TabsI w := by
  obtain ⟨g, t, cs, fuel, p, hg, hty, hvar, hd⟩ := h
  obtain rfl := Option.some.inj (gPow.symm.trans hg)
  obtain rfl := Option.some.inj ((show (Tryz.prog.globals[3]?).map (·.type) = some 149 by kernel_rfl).symm.trans hty)
  unfold TabsI Go.Lib.TabIs
  rw [hvar, ← Go.Lib.cells_of_tab Tryz.underlying149 Tryz.underlying83 (by kernel_rfl) (by kernel_rfl) hd]
theorem touch_grow (w : World) (k : Nat) (os : Array Obj) : Touch (fun _ => False) w (Go.Sort.grow (w.drewN k) os) := by
  refine ⟨rfl, rfl, rfl, ?_, ?_⟩
  · show w.heap.size ≤ (w.heap ++ os).size
    simp
  · intro i hi _
    show (w.heap ++ os)[i]? = _
    rw [Array.getElem?_append_left hi]

theorem hexText_list (f : Nat) : hexText f = ⟨(102 :: hexGo (refBits f) 16).toArray⟩ := by
  unfold hexText
  apply ByteArray.ext
  simp

set_option maxHeartbeats 1000000 in
theorem v_text (v : V) (hv : v.taken) (hs : v.s.size ≤ 1000000000000) (w : World) (hT : TabsI w) : Calls Tryz.prog 59 #[v.val] w fun e w' => e = .returned (.string ⟨(textL v).toArray⟩) ∧ Touch (fun _ => False) w w' := by
  rcases hv.kind with e | e | e | e | e | e
  · have HE : Hid (textL v = [110, 117, 108, 108]) := by unfold textL; rw [Hid, if_pos e]
    obtain ⟨k, n, f, s⟩ := v
    simp only at e
    subst e
    simp only [V.val] at *
    generalize textL ⟨0, n, f, s⟩ = R at *
    go_enter Tryz.func59, Tryz.ntmps59
    go_wp2_with fail
    go_ret
    exact ⟨by rw [HE.out]; rfl, (Touch.refl _ _).alloc _⟩
  · have HE : Hid (textL v = if v.n = 1 then [116, 114, 117, 101] else [102, 97, 108, 115, 101]) := by unfold textL; rw [Hid, if_neg (by omega), if_pos e]
    have hb := hv.bool e
    obtain ⟨k, n, f, s⟩ := v
    simp only at e hb
    subst e
    simp only [V.val] at *
    generalize textL ⟨1, n, f, s⟩ = R at *
    clear hv
    rcases hb with e | e <;> subst e
    · have HF : Hid (R = [102, 97, 108, 115, 101]) := HE.out
      clear HE
      go_enter Tryz.func59, Tryz.ntmps59
      go_wp2
      go_ret
      exact ⟨by rw [HF.out]; rfl, (Touch.refl _ _).alloc _⟩
    · have HF : Hid (R = [116, 114, 117, 101]) := HE.out
      clear HE
      go_enter Tryz.func59, Tryz.ntmps59
      go_wp2
      go_ret
      exact ⟨by rw [HF.out]; rfl, (Touch.refl _ _).alloc _⟩
  · have HE : Hid (textL v = Go.Lib.itoa v.n) := by unfold textL; rw [Hid, if_neg (by omega), if_neg (by omega), if_pos e]
    have HI : Hid (∀ w, TabsI w → Calls Tryz.prog 76 #[.int .i64 v.n, .int .i64 10] w fun e w' => e = .returned (.string ⟨(Go.Lib.itoa v.n).toArray⟩) ∧ Touch (fun _ => False) w w') := by
      intro w h
      refine (Tryz.strconv_FormatInt_10 v.n hv.fit.n0 (by have := hv.fit.n1; omega) w h).mono ?_
      rintro e w' ⟨rfl, k, os, rfl⟩
      exact ⟨rfl, touch_grow _ _ _⟩
    obtain ⟨k, n, f, s⟩ := v
    simp only at e
    subst e
    simp only [V.val] at *
    have HU : Hid (TabsI w) := hT
    generalize textL ⟨2, n, f, s⟩ = R at *
    generalize Go.Lib.itoa n = I at *
    clear hv hT
    go_enter Tryz.func59, Tryz.ntmps59
    go_wp2_with fail
    refine (HI.out _ (HU.out.keep ((Touch.refl _ _).alloc _))).mono ?_
    rintro e w1 ⟨rfl, hT⟩
    have HT : Hid (Touch (fun _ => False) w w1) := Touch.trans ((Touch.refl _ _).alloc _) hT
    clear hT
    go_wp2_with fail
    go_ret
    exact ⟨by rw [HE.out]; rfl, HT.out⟩
  · have h := v_text_float v e hv.fit.f1 w
    rw [hexText_list] at h
    have : textL v = 102 :: hexGo (refBits v.f) 16 := by unfold textL; rw [if_neg (by omega), if_neg (by omega), if_neg (by omega), if_pos e]
    rw [this]; exact h
  · have h := v_text_text v e hs w
    have : textL v = 34 :: quoteGo v.s.data.toList ++ [34] := by unfold textL; rw [if_neg (by omega), if_neg (by omega), if_neg (by omega), if_neg (by omega), if_pos e]
    rw [this]; exact h
  · have HE : Hid (textL v = [109, 97, 112]) := by unfold textL; rw [Hid, if_neg (by omega), if_neg (by omega), if_neg (by omega), if_neg (by omega), if_neg (by omega)]
    obtain ⟨k, n, f, s⟩ := v
    simp only at e
    subst e
    simp only [V.val] at *
    generalize textL ⟨5, n, f, s⟩ = R at *
    go_enter Tryz.func59, Tryz.ntmps59
    go_wp2_with fail
    go_ret
    exact ⟨by rw [HE.out]; rfl, (Touch.refl _ _).alloc _⟩

theorem hex_cut (d : Nat) (h : d < 16) : (ByteArray.mk #[48, 49, 50, 51, 52, 53, 54, 55, 56, 57, 97, 98, 99, 100, 101, 102]).extract d (d + 1) = ⟨#[hexDigits.getD d 0]⟩ := by
  have : ∀ d : Fin 16, (ByteArray.mk #[48, 49, 50, 51, 52, 53, 54, 55, 56, 57, 97, 98, 99, 100, 101, 102]).extract d.1 (d.1 + 1) = ⟨#[hexDigits.getD d.1 0]⟩ := by decide +kernel
  exact this ⟨d, h⟩

set_option maxHeartbeats 1000000 in
theorem ref_text_float (n : Int) (f : Nat) (s : ByteArray) (hf : f < 18446744073709551616) (w : World) : Calls Tryz.prog 30 #[.agg #[.int .i64 3, .int .i64 n, .float .f64 f, .string s]] w fun e w' => e = .returned (.string ⟨(102 :: hexGo (refBits f) 16).toArray⟩) ∧ Touch (fun _ => False) w w' := by
  have HN : Hid (∀ w, Calls Tryz.prog 56 #[.float .f64 f] w fun e w' => e = .returned (.int .u64 (refBits f)) ∧ w' = w) := ref_bits f
  have hg := refBits_lt f hf
  generalize refBits f = g at *
  have HW : Hid (Touch (fun _ => False) w (w.alloc (.cells #[.int .i64 3, .int .i64 n, .float .f64 f, .string s] 43))) := (Touch.refl _ _).alloc _
  go_enter Tryz.func30, Tryz.ntmps30
  go_wp2_with fail
  go_loopw [3, 4] (fun a b wr => ∃ k : Nat, b = .int .i64 (60 - 4 * (k : Int)) ∧ k ≤ 16 ∧ a = .string ⟨(102 :: hexGo g k).toArray⟩ ∧ wr = w.alloc (.cells #[.int .i64 3, .int .i64 n, .float .f64 f, .string s] 43)) (fun _ b _ => (intOf b + 4).toNat)
  case atStart => exact ⟨0, rfl, by omega, rfl, rfl⟩
  case round =>
    obtain ⟨k, rfl, hk, rfl, rfl⟩ := hrel
    by_cases h16 : k = 16
    · subst h16
      go_wp2_with fail
      go_ret
      exact ⟨rfl, HW.out⟩
    · have hd := hex_nibble g k hg (by omega)
      have hlt : g / 16 ^ (15 - k) % 16 < 16 := Nat.mod_lt _ (by decide)
      have HC := hex_cut _ hlt
      have HN2 : Hid (hexGo g (k + 1) = hexGo g k ++ [hexDigits.getD (g / 16 ^ (15 - k) % 16) 0]) := hexGo_succ g k
      have hsz : (ByteArray.mk (102 :: hexGo g k).toArray).size = k + 1 := by
        show (102 :: hexGo g k).toArray.size = k + 1
        rw [List.size_toArray, List.length_cons, hexGo_length]
      generalize g / 16 ^ (15 - k) % 16 = d at *
      have HX : Hid (ByteArray.mk (102 :: hexGo g k).toArray ++ ⟨#[hexDigits.getD d 0]⟩ = ⟨(102 :: hexGo g (k + 1)).toArray⟩) := by
        rw [Hid, HN2.out]
        apply ByteArray.ext
        simp
      have HCut : Hid ((ByteArray.mk #[48, 49, 50, 51, 52, 53, 54, 55, 56, 57, 97, 98, 99, 100, 101, 102]).extract d (d + 1) = ⟨#[hexDigits.getD d 0]⟩) := HC
      clear HC
      generalize ByteArray.mk (102 :: hexGo g k).toArray = T at *
      have hd0 : (0 : Int) ≤ (d : Int) := by omega
      have hd1 : (d : Int) < 16 := by omega
      go_wp2_with fail
      refine (HN.out _).mono ?_
      rintro e w1 ⟨rfl, rfl⟩
      go_wp2_with fail
      simp only [HCut.out, HX.out]
      go_roundw
      case rel => exact ⟨k + 1, by go_num, by omega, rfl, trivial⟩
      case measure => simp [intOf]; omega

set_option maxHeartbeats 1000000 in
theorem ref_text (v : V) (hv : v.taken) (hs : v.s.size ≤ 1000000000000) (w : World) : Calls Tryz.prog 30 #[v.val] w fun e w' => e = .returned (.string ⟨(textL v).toArray⟩) ∧ Touch (fun _ => False) w w' := by
  rcases hv.kind with e | e | e | e | e | e
  · have HE : Hid (textL v = [110, 117, 108, 108]) := by unfold textL; rw [Hid, if_pos e]
    obtain ⟨k, n, f, s⟩ := v
    simp only at e
    subst e
    simp only [V.val] at *
    generalize textL ⟨0, n, f, s⟩ = R at *
    go_enter Tryz.func30, Tryz.ntmps30
    go_wp2_with fail
    go_ret
    exact ⟨by rw [HE.out]; rfl, (Touch.refl _ _).alloc _⟩
  · have HE : Hid (textL v = if v.n = 1 then [116, 114, 117, 101] else [102, 97, 108, 115, 101]) := by unfold textL; rw [Hid, if_neg (by omega), if_pos e]
    have hb := hv.bool e
    obtain ⟨k, n, f, s⟩ := v
    simp only at e hb
    subst e
    simp only [V.val] at *
    generalize textL ⟨1, n, f, s⟩ = R at *
    clear hv
    rcases hb with e | e <;> subst e
    · have HF : Hid (R = [102, 97, 108, 115, 101]) := HE.out
      clear HE
      go_enter Tryz.func30, Tryz.ntmps30
      go_wp2_with fail
      go_ret
      exact ⟨by rw [HF.out]; rfl, (Touch.refl _ _).alloc _⟩
    · have HF : Hid (R = [116, 114, 117, 101]) := HE.out
      clear HE
      go_enter Tryz.func30, Tryz.ntmps30
      go_wp2_with fail
      go_ret
      exact ⟨by rw [HF.out]; rfl, (Touch.refl _ _).alloc _⟩
  · have HE : Hid (ByteArray.mk (textL v).toArray = refDec v.n) := by unfold textL; rw [Hid, if_neg (by omega), if_neg (by omega), if_pos e, refDec_itoa _ hv.fit.n0 hv.fit.n1]
    have HI : Hid (∀ w, Calls Tryz.prog 55 #[.int .i64 v.n] w fun e w' => e = .returned (.string (refDec v.n)) ∧ w' = w) := ref_dec v.n hv.fit.n0 hv.fit.n1
    obtain ⟨k, n, f, s⟩ := v
    simp only at e
    subst e
    simp only [V.val] at *
    generalize ByteArray.mk (textL ⟨2, n, f, s⟩).toArray = R at *
    generalize refDec n = I at *
    clear hv
    go_enter Tryz.func30, Tryz.ntmps30
    go_wp2_with fail
    refine (HI.out _).mono ?_
    rintro e w1 ⟨rfl, rfl⟩
    go_wp2_with fail
    go_ret
    exact ⟨by rw [HE.out]; rfl, (Touch.refl _ _).alloc _⟩
  · have : textL v = 102 :: hexGo (refBits v.f) 16 := by unfold textL; rw [if_neg (by omega), if_neg (by omega), if_neg (by omega), if_pos e]
    rw [this]
    obtain ⟨k, n, f, s⟩ := v
    simp only at e
    subst e
    exact ref_text_float n f s hv.fit.f1 w
  · have HE : Hid (ByteArray.mk (textL v).toArray = refQuote v.s) := by unfold textL; rw [Hid, if_neg (by omega), if_neg (by omega), if_neg (by omega), if_neg (by omega), if_pos e]; rfl
    have HQ : Hid (∀ w, Calls Tryz.prog 31 #[.string v.s] w fun e w' => e = .returned (.string (refQuote v.s)) ∧ Touch (fun _ => False) w w') := ref_quote v.s hs
    obtain ⟨k, n, f, s⟩ := v
    simp only at e
    subst e
    simp only [V.val] at *
    generalize ByteArray.mk (textL ⟨4, n, f, s⟩).toArray = R at *
    generalize refQuote s = I at *
    clear hv
    go_enter Tryz.func30, Tryz.ntmps30
    go_wp2_with fail
    refine (HQ.out _).mono ?_
    rintro e w1 ⟨rfl, hT⟩
    have HT : Hid (Touch (fun _ => False) w w1) := Touch.trans ((Touch.refl _ _).alloc _) hT
    clear hT
    go_wp2_with fail
    go_ret
    exact ⟨by rw [HE.out]; rfl, HT.out⟩
  · have HE : Hid (textL v = [109, 97, 112]) := by unfold textL; rw [Hid, if_neg (by omega), if_neg (by omega), if_neg (by omega), if_neg (by omega), if_neg (by omega)]
    obtain ⟨k, n, f, s⟩ := v
    simp only at e
    subst e
    simp only [V.val] at *
    generalize textL ⟨5, n, f, s⟩ = R at *
    go_enter Tryz.func30, Tryz.ntmps30
    go_wp2_with fail
    go_ret
    exact ⟨by rw [HE.out]; rfl, (Touch.refl _ _).alloc _⟩
end Go.Proofs.YtijkekkjiboomaaGreatDoor

/- Views: rows of texts beside a Builder; tellLine, textOf. -/
namespace Go.Proofs.YtijkekkjiboomaaGreatDoor
open Go.RowKit Go.Maps
set_option linter.unusedVariables false
set_option linter.unusedSimpArgs false
set_option maxRecDepth 100000

theorem SlZ.bkeep {B b : Nat} {by0 : List UInt8} {w w' : World} {v : Value} {l : List ByteArray} (h : SlZ w v l) (hb : BldF B b by0 w) (t : BKeep B b w w') : SlZ w' v l := by
  obtain ⟨ao, cap, e, h1, h2, h3, h4⟩ := h
  refine ⟨ao, cap, e, h1, h2, h3, ?_⟩
  rcases h4 with h4 | ⟨g, o, e, ⟨c, hT⟩, hc⟩
  · exact .inl h4
  · have hk := keepB_cells (by decide) (by decide) hT hb t
    refine .inr ⟨g, o, e, ⟨c, hk⟩, fun j u hu => ?_⟩
    have := hc j u hu
    rw [cell_of_block hT] at this
    rw [cell_of_block hk]; exact this
theorem SlZ.at {w : World} {ao : Option Addr} {n cap : Nat} {l : List ByteArray} (h : SlZ w (.slice ao n cap) l) {i : Nat} (hi : i < l.length) : ∃ b o, ao = some ⟨b, o, none⟩ ∧ w.cell? ⟨b, o + i, none⟩ = some (.string l[i]) := by
  obtain ⟨b, o, c, e, -, -, -, hx⟩ := h.row (by intro e; subst e; simp at hi)
  simp only [Value.slice.injEq] at e
  have := hx i hi
  rw [Nat.mul_one] at this
  exact ⟨b, o, e.1, this⟩
theorem joinZ_take {l : List ByteArray} {i : Nat} (h : i < l.length) : joinZ (l.take (i + 1)) = joinZ (l.take i) ++ l[i].data.toList := by
  rw [List.take_succ_eq_append_getElem h, joinZ_append, joinZ_cons, joinZ_nil, List.append_nil]
theorem joinZ_take_le (l : List ByteArray) (i : Nat) : (joinZ (l.take i)).length ≤ (joinZ l).length := by
  have e : l = l.take i ++ l.drop i := (List.take_append_drop i l).symm
  conv => rhs; rw [e]
  rw [joinZ_append, List.length_append]; omega
theorem BKeep.refl (B b : Nat) (w : World) : BKeep B b w w := ⟨Below.refl B w, Go.Lib.OthersKept.refl _ _ w⟩
set_option maxHeartbeats 4000000 in
theorem tellLine_any {w : World} {B b : Nat} {by0 : List UInt8} {v : Value} {l : List ByteArray} (hb : BldF B b by0 w) (hl : SlZ w v l) (hs : by0.length + (joinZ l).length + 1 ≤ 140737488355328) (hBw : B ≤ w.heap.size) :
    Calls Tryz.prog 34 #[.pointer (some ⟨b, 0, none⟩), v] w fun e w' => e = .returned (.tuple #[]) ∧ BldF B b (by0 ++ joinZ l ++ [10]) w' ∧ BKeep B b w w' := by
  obtain ⟨ao, cap, rfl, -, -, hcap⟩ := hl.shape
  have HA : Hid (∀ W, BKeep B b w W → SlZ W (.slice ao l.length cap) l) := fun W t => hl.bkeep hb t
  have HW : Hid (∀ W by1 s, BldF B b by1 W → by1.length + s.size ≤ 140737488355328 → BKeep B b w W → Calls Tryz.prog 40 #[.pointer (some ⟨b, 0, none⟩), .string s] W fun e w' => e = .returned (.tuple #[.int .i64 s.size, .nilIface]) ∧ BldF B b (by1 ++ s.data.toList) w' ∧ BKeep B b w w') := fun W by1 s h1 h2 h3 => (b_writeStr B b by1 s W h1 h2 (Nat.le_trans hBw h3.below.size)).mono fun e w' ⟨q1, q2, q3⟩ => ⟨q1, q2, h3.trans q3⟩
  have HN : Hid (∀ W by1, BldF B b by1 W → by1.length + 1 ≤ 140737488355328 → BKeep B b w W → Calls Tryz.prog 57 #[.pointer (some ⟨b, 0, none⟩), .int .u8 10] W fun e w' => e = .returned .nilIface ∧ BldF B b (by1 ++ [10]) w' ∧ BKeep B b w w') := fun W by1 h1 h2 h3 => (b_writeByteF B b by1 10 10 rfl W h1 h2 (Nat.le_trans hBw h3.below.size)).mono fun e w' ⟨q1, q2, q3⟩ => ⟨q1, q2, h3.trans q3⟩
  have H0 : Hid (BldF B b (by0 ++ joinZ (l.take 0)) w ∧ BKeep B b w w) := ⟨by rw [List.take_zero, joinZ_nil, List.append_nil]; exact hb, BKeep.refl _ _ _⟩
  have HS : Hid (∀ i, (by0 ++ joinZ (l.take i)).length ≤ by0.length + (joinZ l).length ∧ by0.length + (joinZ l).length + 1 ≤ 140737488355328) := fun i => ⟨by rw [List.length_append]; have := joinZ_take_le l i; omega, hs⟩
  have hll : l.length ≤ 9223372036854775807 := by obtain ⟨ao', c', e, q, q2, q3⟩ := hl.shape; simp only [Value.slice.injEq] at e; omega
  clear hb hl hs hBw
  go_enter Tryz.func34, Tryz.ntmps34
  go_wp2_with fail
  go_loopg [8] l.length (fun gk s8 wr => ∃ i : Nat, i + gk = l.length ∧ s8 = .int .i64 (i : Int) ∧ Hid (BldF B b (by0 ++ joinZ (l.take i)) wr ∧ BKeep B b w wr))
  case atStart => exact ⟨0, by omega, rfl, H0.out⟩
  case round =>
    obtain ⟨i, hig, rfl, HI⟩ := hrel
    by_cases hil : i < l.length
    · obtain ⟨g, o, rfl, x0⟩ := (HA.out _ HI.out.2).at hil
      have hi1 : (0 : Int) ≤ (i : Int) := by omega
      have hi2 : (i : Int) < (l.length : Int) := by omega
      have HJ : Hid (joinZ (l.take (i + 1)) = joinZ (l.take i) ++ l[i].data.toList) := joinZ_take hil
      have hsz : (by0 ++ joinZ (l.take i)).length + l[i].size ≤ 140737488355328 := by
        have h1 := (HS.out (i + 1))
        rw [HJ.out, ← List.append_assoc, List.length_append] at h1
        have : l[i].data.toList.length = l[i].size := by rw [Array.length_toList]; rfl
        omega
      have HC : Hid (Calls Tryz.prog 40 #[.pointer (some ⟨b, 0, none⟩), .string l[i]] wr fun e w' => e = .returned (.tuple #[.int .i64 l[i].size, .nilIface]) ∧ BldF B b (by0 ++ joinZ (l.take i) ++ l[i].data.toList) w' ∧ BKeep B b w w') := HW.out wr _ l[i] HI.out.1 hsz HI.out.2
      clear hsz HI
      generalize l[i] = s at *
      generalize joinZ (l.take i) = J0 at *
      go_wp2_with fail
      refine HC.out.mono ?_
      rintro e W1 ⟨rfl, q1, q2⟩
      have HQ : Hid (BldF B b (by0 ++ joinZ (l.take (i + 1))) W1 ∧ BKeep B b w W1) := ⟨by rw [HJ.out, ← List.append_assoc]; exact q1, q2⟩
      clear q1 q2 HC
      go_wp2_with fail
      go_roundg (l.length - (i + 1))
      case measure => omega
      case rel => exact ⟨i + 1, by omega, by go_num, HQ.out⟩
    · have hEq : i = l.length := by omega
      subst hEq
      have HC : Hid (Calls Tryz.prog 57 #[.pointer (some ⟨b, 0, none⟩), .int .u8 10] wr fun e w' => e = .returned .nilIface ∧ BldF B b (by0 ++ joinZ l ++ [10]) w' ∧ BKeep B b w w') := by
        have h := HN.out wr _ HI.out.1 (by have := HS.out l.length; omega) HI.out.2
        rw [List.take_length] at h
        exact h
      clear HI
      go_wp2_with fail
      refine HC.out.mono ?_
      rintro e W1 ⟨rfl, q1, q2⟩
      have HQ : Hid (BldF B b (by0 ++ joinZ l ++ [10]) W1 ∧ BKeep B b w W1) := ⟨q1, q2⟩
      clear q1 q2 HC
      go_wp2_with fail
      go_end0
      exact ⟨rfl, HQ.out⟩
theorem textOf_any (s : ByteArray) (hs : s.size ≤ 1000000000000) (w : World) : Calls Tryz.prog 58 #[.string s] w fun e w' => e = .returned (.string ⟨(qL s).toArray⟩) ∧ Touch (fun _ => False) w w' := by
  have HV : Hid (∀ W, Calls Tryz.prog 59 #[.agg #[.int .i64 4, .int .i64 0, .float .f64 0, .string s]] W fun e w' => e = .returned (.string ⟨(qL s).toArray⟩) ∧ Touch (fun _ => False) W w') := fun W => v_text_text ⟨4, 0, 0, s⟩ rfl hs W
  clear hs
  go_enter Tryz.func58, Tryz.ntmps58
  go_wp2_with fail
  refine (HV.out _).mono ?_
  rintro e w1 ⟨rfl, hT⟩
  have HT : Hid (Touch (fun _ => False) w w1) := hT
  clear hT
  go_wp2_with fail
  go_ret
  exact ⟨rfl, HT.out⟩
end Go.Proofs.YtijkekkjiboomaaGreatDoor
