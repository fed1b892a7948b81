/- quirelaw4.DiskRenames returns true. -/
import Derived.Test.YtfeojfcnphjbdaaKnown4
import Derived.Test.YtfeojfcnphjbdaaRenM
import Derived.Test.YtfeojfcnphjbdaaBothD
import Derived.Test.YtfeojfcnphjbdaaSlTo
import Derived.BigRegion
import Derived.Deep.DeepCutAuto
import Derived.Deep.RegionHeld3
namespace Go.Proofs.Ytfeojfcnphjbdaa
open Go.RowKit Go.Maps Go.Sort
set_option linter.unusedVariables false

def fiveStr (m : Nat) : ByteArray := ⟨(fiveKey m).toArray⟩

set_option maxRecDepth 100000 in
set_option maxHeartbeats 6400000 in
theorem diskRenames_any (w : World) (g0 : Nat) (ao : Option Addr) (a : List UInt8) (n0 c0 : Nat) (hn0 : n0 = a.length) (hno0 : ao = none → c0 = 0) (hL0 : Lies w g0 ao a) (hc0 : a.length ≤ c0) (hm0 : c0 ≤ maxLen) (ha : a.length ≤ 140737488355328)
    (g1 : Nat) (bo : Option Addr) (b : List UInt8) (n1 c1 : Nat) (hn1 : n1 = b.length) (hno1 : bo = none → c1 = 0) (hL1 : Lies w g1 bo b) (hc1 : b.length ≤ c1) (hm1 : c1 ≤ maxLen) (hb : b.length ≤ 140737488355328)
    (g2 : Nat) (no : Option Addr) (ns : List UInt8) (n2 c2 : Nat) (hn2 : n2 = ns.length) (hno2 : no = none → c2 = 0) (hL2 : Lies w g2 no ns) (hc2 : ns.length ≤ c2) (hm2 : c2 ≤ maxLen) (hns : ns.length ≤ 140737488355328)
    (kp : Int) (hk : -9223372036854775808 ≤ kp ∧ kp ≤ 9223372036854775807) :
    Calls Try.prog 6 #[.slice ao n0 c0, .slice bo n1 c1, .slice no n2 c2, .int .i64 kp] w fun e w' => e = .returned (.bool true) ∧ Touch (fun _ => False) w w' := by
  subst hn0 hn1 hn2
  unfold maxLen at hm0 hm1 hm2
  have HK : Hid (Calls Try.prog 7 #[] w fun e w' => e = .returned (.bool true) ∧ Touch (fun _ => False) w w') := known_any w
  have HLa : Hid (Lies w g0 ao a) := hL0
  have HLb : Hid (Lies w g1 bo b) := hL1
  have HLn : Hid (Lies w g2 no ns) := hL2
  have HN0 : Hid (ao = none → c0 = 0) := hno0
  have HN1 : Hid (bo = none → c1 = 0) := hno1
  clear hL0 hL1 hL2 hno0 hno1 hno2
  by_cases hlen : 3000 < a.length + b.length
  · have hl2 : (3000 : Int) < (a.length : Int) + (b.length : Int) := by omega
    go_enter Try.func6, Try.ntmps6
    go_wp2_with fail
    refine HK.out.mono ?_
    rintro e w1 ⟨rfl, hT⟩
    have HT : Hid (Touch (fun _ => False) w w1) := hT
    clear hT HK
    go_wp2_with fail
    go_ret
    exact ⟨rfl, HT.out⟩
  have hl2 : decide ((3000 : Int) < (a.length : Int) + (b.length : Int)) = false := by simp; omega
  by_cases hlen2 : 40 < ns.length
  · have hl3 : (40 : Int) < (ns.length : Int) := by omega
    go_enter Try.func6, Try.ntmps6
    go_wp2_with fail
    refine HK.out.mono ?_
    rintro e w1 ⟨rfl, hT⟩
    have HT : Hid (Touch (fun _ => False) w w1) := hT
    clear hT HK
    go_wp2_with fail
    go_ret
    exact ⟨rfl, HT.out⟩
  have hl3 : decide ((40 : Int) < (ns.length : Int)) = false := by simp; omega
  have kc := fun (w : World) (C : Array Value) (n c : Nat) => Lib.run_convert_bytes_const (P := Try.prog) w 29 5 C n c Try.underlying29 Try.underlying5
  have HN : Hid (∀ W, Calls Try.prog 9 #[.int .i64 1048576] W fun e w' => ∃ d F, e = .returned (dp d) ∧ Live W w' d F (newSt 1048576)) := fun W => lNew 1048576 (by decide) W
  have HA1 : Hid (∀ W0 W d F, Live W0 W d F (newSt 1048576) → Lies W g0 ao a → Calls Try.prog 12 #[dp d, .string ⟨#[102]⟩, .slice ao a.length c0] W fun e w' => e = .returned (.int .i64 0) ∧ LPost W0 d F (one [102] (a, 0) 1048576) W w') := by
    intro W0 W d F h hL
    have := lAppend h (by decide) ⟨#[102]⟩ (by decide) g0 ao a a.length c0 rfl HN0.out hL (by omega)
    have e0 : appE (newSt 1048576) (⟨#[102]⟩ : ByteArray).data.toList a = 0 := new_appE (by decide) (by omega) (by omega) (by decide)
    have e1 : mAppend (newSt 1048576) (⟨#[102]⟩ : ByteArray).data.toList a = one [102] (a, 0) 1048576 := new_append (by decide) (by omega) (by omega) (by decide)
    rw [e0, e1] at this
    exact this
  have HSy : Hid (∀ W0 W d F, Live W0 W d F (one [102] (a, 0) 1048576) → Calls Try.prog 15 #[dp d, .string ⟨#[102]⟩] W fun e w' => e = .returned (.int .i64 0) ∧ LPost W0 d F (one [102] (a, a.length) 1048576) W w') := by
    intro W0 W d F h
    have := lSync h one_len ⟨#[102]⟩ (by decide)
    have e0 : (one [102] (a, 0) 1048576).err (⟨#[102]⟩ : ByteArray).data.toList = 0 := one_err
    have e1 : mSync (one [102] (a, 0) 1048576) (⟨#[102]⟩ : ByteArray).data.toList = one [102] (a, a.length) 1048576 := one_sync
    rw [e0, e1] at this
    exact this
  have HA2 : Hid (∀ W0 W d F, Live W0 W d F (one [102] (a, a.length) 1048576) → Lies W g1 bo b → Calls Try.prog 12 #[dp d, .string ⟨#[102]⟩, .slice bo b.length c1] W fun e w' => e = .returned (.int .i64 0) ∧ LPost W0 d F (one [102] (a ++ b, a.length) 1048576) W w') := by
    intro W0 W d F h hL
    have := lAppend h one_len ⟨#[102]⟩ (by decide) g1 bo b b.length c1 rfl HN1.out hL (by omega)
    have e0 : appE (one [102] (a, a.length) 1048576) (⟨#[102]⟩ : ByteArray).data.toList b = 0 := one_appE (by decide) (by omega) (by omega)
    have e1 : mAppend (one [102] (a, a.length) 1048576) (⟨#[102]⟩ : ByteArray).data.toList b = one [102] (a ++ b, a.length) 1048576 := one_append (by decide) (by omega) (by omega)
    rw [e0, e1] at this
    exact this
  have HA3 : Hid (∀ W0 W d F, Live W0 W d F (one [102] (a ++ b, a.length) 1048576) → Calls Try.prog 12 #[dp d, .string ⟨#[122]⟩, .slice (some ⟨W.heap.size, 0, none⟩) 7 7] (W.alloc (.cells #[.int .u8 97, .int .u8 110, .int .u8 111, .int .u8 116, .int .u8 104, .int .u8 101, .int .u8 114] 5 (7, 8))) fun e w' => e = .returned (.int .i64 0) ∧ LPost W0 d F (two [102] (a ++ b, a.length) ([97, 110, 111, 116, 104, 101, 114], 0) 1048576) (W.alloc (.cells #[.int .u8 97, .int .u8 110, .int .u8 111, .int .u8 116, .int .u8 104, .int .u8 101, .int .u8 114] 5 (7, 8))) w') := by
    intro W0 W d F h
    have := lAppend (h.touch ((Touch.refl _ W).alloc (.cells #[.int .u8 97, .int .u8 110, .int .u8 111, .int .u8 116, .int .u8 104, .int .u8 101, .int .u8 114] 5 (7, 8)))) one_len ⟨#[122]⟩ (by decide) W.heap.size _ [97, 110, 111, 116, 104, 101, 114] 7 7 rfl (by intro h; cases h) (lies_new W [97, 110, 111, 116, 104, 101, 114] _) (by decide)
    have e0 : appE (one [102] (a ++ b, a.length) 1048576) (⟨#[122]⟩ : ByteArray).data.toList [97, 110, 111, 116, 104, 101, 114] = 0 := two_appE (by simp; omega) (by decide)
    have e1 : mAppend (one [102] (a ++ b, a.length) 1048576) (⟨#[122]⟩ : ByteArray).data.toList [97, 110, 111, 116, 104, 101, 114] = two [102] (a ++ b, a.length) ([97, 110, 111, 116, 104, 101, 114], 0) 1048576 := two_append (by simp; omega) (by decide)
    rw [e0, e1] at this
    exact this
  go_enter Try.func6, Try.ntmps6
  go_wp2_with fail
  refine HK.out.mono ?_
  rintro e w1 ⟨rfl, hT1⟩
  have HT1 : Hid (Touch (fun _ => False) w w1) := hT1
  clear hT1 HK
  go_wp2_with fail
  refine (HN.out w1).mono ?_
  rintro e w2 ⟨d, F2, rfl, h⟩
  have HF2 : Hid (LF F2 w2 g0 ao a ∧ LF F2 w2 g1 bo b ∧ LF F2 w2 g2 no ns) := ⟨lf_old h HT1.out HLa.out, lf_old h HT1.out HLb.out, lf_old h HT1.out HLn.out⟩
  clear HN HLa HLb HLn
  have HX := HA1.out _ _ _ _ h HF2.out.1.lies
  have H : Hid (Calls Try.prog _ _ w2 _) := HX
  clear h HX HA1
  go_wp2_with fail
  refine H.out.mono ?_
  rintro e w3 ⟨rfl, F3, h, hS⟩
  have HF3 : Hid (LF F3 w3 g0 ao a ∧ LF F3 w3 g1 bo b ∧ LF F3 w3 g2 no ns) := ⟨HF2.out.1.step hS, HF2.out.2.1.step hS, HF2.out.2.2.step hS⟩
  clear hS H HF2
  have HX := HSy.out _ _ _ _ h
  have H : Hid (Calls Try.prog _ _ w3 _) := HX
  clear h HX HSy
  go_wp2_with fail
  refine H.out.mono ?_
  rintro e w4 ⟨rfl, F4, h, hS⟩
  have HF4 : Hid (LF F4 w4 g0 ao a ∧ LF F4 w4 g1 bo b ∧ LF F4 w4 g2 no ns) := ⟨HF3.out.1.step hS, HF3.out.2.1.step hS, HF3.out.2.2.step hS⟩
  clear hS H HF3
  have HX := HA2.out _ _ _ _ h HF4.out.2.1.lies
  have H : Hid (Calls Try.prog _ _ w4 _) := HX
  clear h HX HA2
  go_wp2_with fail
  refine H.out.mono ?_
  rintro e w5 ⟨rfl, F5, h, hS⟩
  have HF5 : Hid (LF F5 w5 g0 ao a ∧ LF F5 w5 g1 bo b ∧ LF F5 w5 g2 no ns) := ⟨HF4.out.1.step hS, HF4.out.2.1.step hS, HF4.out.2.2.step hS⟩
  clear hS H HF4
  have HX := HA3.out _ _ _ _ h
  have H : Hid (Calls Try.prog _ _ (w5.alloc _) _) := HX
  clear h HX HA3
  go_wp2_with fail
  refine H.out.mono ?_
  rintro e w6 ⟨rfl, F6, h, hS⟩
  have HF6 : Hid (LF F6 w6 g0 ao a ∧ LF F6 w6 g1 bo b ∧ LF F6 w6 g2 no ns) := ⟨(HF5.out.1.touch ((Touch.refl _ w5).alloc _)).step hS, (HF5.out.2.1.touch ((Touch.refl _ w5).alloc _)).step hS, (HF5.out.2.2.touch ((Touch.refl _ w5).alloc _)).step hS⟩
  have H6 : Hid (Live w1 w6 d F6 (two [102] (a ++ b, a.length) ([97, 110, 111, 116, 104, 101, 114], 0) 1048576)) := h
  clear h hS H HF5
  go_wp2_with fail
  go_loopw [10, 11] (fun at0 i wr => ∃ k m : Nat, i = .int .i64 (k : Int) ∧ k ≤ ns.length ∧ at0 = .string (fiveStr m) ∧ ∃ s F, RenSt 1048576 (a ++ b, a.length) ([97, 110, 111, 116, 104, 101, 114], 0) m s ∧ Live w1 wr d F s ∧ LF F wr g0 ao a ∧ LF F wr g1 bo b ∧ LF F wr g2 no ns) (fun _ i _ => (ns.length - intOf i).toNat)
  case atStart => exact ⟨0, 0, rfl, Nat.zero_le _, rfl, _, _, ⟨by decide, .inr ⟨by decide, rfl⟩⟩, H6.out, HF6.out.1, HF6.out.2.1, HF6.out.2.2⟩
  case round =>
    obtain ⟨k, m, rfl, hkk, rfl, s, F, hR, hL, hfa, hfb, hfn⟩ := hrel
    have HR : Hid (RenSt 1048576 (a ++ b, a.length) ([97, 110, 111, 116, 104, 101, 114], 0) m s) := hR
    have HL : Hid (Live w1 wr d F s) := hL
    have HF : Hid (LF F wr g0 ao a ∧ LF F wr g1 bo b ∧ LF F wr g2 no ns) := ⟨hfa, hfb, hfn⟩
    have hsl : s.fs.length ≤ 1073741823 := by
      obtain ⟨_, rfl | ⟨_, rfl⟩⟩ := hR
      · simp [one]
      · simp [two]
    clear hR hL hfa hfb hfn H6 HF6
    by_cases hlt : k < ns.length
    · obtain ⟨off, rfl, hcell⟩ : ∃ off, no = some ⟨g2, off, none⟩ ∧ ∀ j (h : j < ns.length), wr.cell? ⟨g2, off + j, none⟩ = some (.int .u8 ns[j].toNat) := by
        rcases HF.out.2.2.lies with he | h
        · rw [he] at hlt; simp at hlt
        · exact h
      have hx := hcell k hlt
      obtain ⟨m2, hm2, hm5⟩ : ∃ m2, m2 = ns[k].toNat % 5 ∧ m2 < 5 := ⟨_, rfl, Nat.mod_lt _ (by decide)⟩
      have hmod : ((ns[k].toNat : Int)).tmod 5 = (m2 : Int) := by rw [hm2]; exact (Int.ofNat_tmod _ 5).symm
      clear hm2 hcell
      generalize ns[k].toNat = y at *
      have HRen : Hid (Calls Try.prog 17 #[dp d, .string (fiveStr m), .string (fiveStr m2)] wr.drew fun e w' => e = .returned (.int .i64 0) ∧ LPost w1 d F (mRename s (fiveKey m) (fiveKey m2)) wr.drew w') := by
        have := lRename (HL.out.touch ((Touch.refl _ wr).drew)) hsl (fiveStr m) (by show (fiveKey m).toArray.size ≤ _; simp [fiveKey]) (fiveStr m2) (by show (fiveKey m2).toArray.size ≤ _; simp [fiveKey])
        rw [show renE s (fiveStr m).data.toList (fiveStr m2).data.toList = 0 from (ren_step HR.out hm5).1] at this
        exact this
      have HR2 : Hid (RenSt 1048576 (a ++ b, a.length) ([97, 110, 111, 116, 104, 101, 114], 0) m2 (mRename s (fiveKey m) (fiveKey m2))) := (ren_step HR.out hm5).2
      rcases (show m2 = 0 ∨ m2 = 1 ∨ m2 = 2 ∨ m2 = 3 ∨ m2 = 4 from by omega) with rfl | rfl | rfl | rfl | rfl
      · have hex : (⟨#[102, 103, 104, 122, 107]⟩ : ByteArray).extract 0 1 = fiveStr 0 := by rfl
        go_wp2_with fail
        go_region
        try rw [hex]
        clear hex
        go_wp2_with fail
        refine HRen.out.mono ?_
        rintro e w7 ⟨rfl, F7, h7, hs7⟩
        have HZ : Hid (∃ s F, RenSt 1048576 (a ++ b, a.length) ([97, 110, 111, 116, 104, 101, 114], 0) 0 s ∧ Live w1 w7 d F s ∧ LF F w7 g0 ao a ∧ LF F w7 g1 bo b ∧ LF F w7 g2 (some ⟨g2, off, none⟩) ns) := by
          have t0 : Touch (fun _ => False) wr wr.drew := (Touch.refl _ wr).drew
          exact ⟨_, _, HR2.out, h7, (HF.out.1.touch t0).step hs7, (HF.out.2.1.touch t0).step hs7, (HF.out.2.2.touch t0).step hs7⟩
        clear h7 hs7 HRen HR2 HR HL HF
        go_wp2_with fail
        go_roundw
        case rel => exact ⟨k + 1, 0, by go_num, by omega, rfl, HZ.out⟩
        case measure => simp [intOf]; omega
      · have hex : (⟨#[102, 103, 104, 122, 107]⟩ : ByteArray).extract 1 2 = fiveStr 1 := by rfl
        go_wp2_with fail
        go_region
        try rw [hex]
        clear hex
        go_wp2_with fail
        refine HRen.out.mono ?_
        rintro e w7 ⟨rfl, F7, h7, hs7⟩
        have HZ : Hid (∃ s F, RenSt 1048576 (a ++ b, a.length) ([97, 110, 111, 116, 104, 101, 114], 0) 1 s ∧ Live w1 w7 d F s ∧ LF F w7 g0 ao a ∧ LF F w7 g1 bo b ∧ LF F w7 g2 (some ⟨g2, off, none⟩) ns) := by
          have t0 : Touch (fun _ => False) wr wr.drew := (Touch.refl _ wr).drew
          exact ⟨_, _, HR2.out, h7, (HF.out.1.touch t0).step hs7, (HF.out.2.1.touch t0).step hs7, (HF.out.2.2.touch t0).step hs7⟩
        clear h7 hs7 HRen HR2 HR HL HF
        go_wp2_with fail
        go_roundw
        case rel => exact ⟨k + 1, 1, by go_num, by omega, rfl, HZ.out⟩
        case measure => simp [intOf]; omega
      · have hex : (⟨#[102, 103, 104, 122, 107]⟩ : ByteArray).extract 2 3 = fiveStr 2 := by rfl
        go_wp2_with fail
        go_region
        try rw [hex]
        clear hex
        go_wp2_with fail
        refine HRen.out.mono ?_
        rintro e w7 ⟨rfl, F7, h7, hs7⟩
        have HZ : Hid (∃ s F, RenSt 1048576 (a ++ b, a.length) ([97, 110, 111, 116, 104, 101, 114], 0) 2 s ∧ Live w1 w7 d F s ∧ LF F w7 g0 ao a ∧ LF F w7 g1 bo b ∧ LF F w7 g2 (some ⟨g2, off, none⟩) ns) := by
          have t0 : Touch (fun _ => False) wr wr.drew := (Touch.refl _ wr).drew
          exact ⟨_, _, HR2.out, h7, (HF.out.1.touch t0).step hs7, (HF.out.2.1.touch t0).step hs7, (HF.out.2.2.touch t0).step hs7⟩
        clear h7 hs7 HRen HR2 HR HL HF
        go_wp2_with fail
        go_roundw
        case rel => exact ⟨k + 1, 2, by go_num, by omega, rfl, HZ.out⟩
        case measure => simp [intOf]; omega
      · have hex : (⟨#[102, 103, 104, 122, 107]⟩ : ByteArray).extract 3 4 = fiveStr 3 := by rfl
        go_wp2_with fail
        go_region
        try rw [hex]
        clear hex
        go_wp2_with fail
        refine HRen.out.mono ?_
        rintro e w7 ⟨rfl, F7, h7, hs7⟩
        have HZ : Hid (∃ s F, RenSt 1048576 (a ++ b, a.length) ([97, 110, 111, 116, 104, 101, 114], 0) 3 s ∧ Live w1 w7 d F s ∧ LF F w7 g0 ao a ∧ LF F w7 g1 bo b ∧ LF F w7 g2 (some ⟨g2, off, none⟩) ns) := by
          have t0 : Touch (fun _ => False) wr wr.drew := (Touch.refl _ wr).drew
          exact ⟨_, _, HR2.out, h7, (HF.out.1.touch t0).step hs7, (HF.out.2.1.touch t0).step hs7, (HF.out.2.2.touch t0).step hs7⟩
        clear h7 hs7 HRen HR2 HR HL HF
        go_wp2_with fail
        go_roundw
        case rel => exact ⟨k + 1, 3, by go_num, by omega, rfl, HZ.out⟩
        case measure => simp [intOf]; omega
      · have hex : (⟨#[102, 103, 104, 122, 107]⟩ : ByteArray).extract 4 5 = fiveStr 4 := by rfl
        go_wp2_with fail
        go_region
        try rw [hex]
        clear hex
        go_wp2_with fail
        refine HRen.out.mono ?_
        rintro e w7 ⟨rfl, F7, h7, hs7⟩
        have HZ : Hid (∃ s F, RenSt 1048576 (a ++ b, a.length) ([97, 110, 111, 116, 104, 101, 114], 0) 4 s ∧ Live w1 w7 d F s ∧ LF F w7 g0 ao a ∧ LF F w7 g1 bo b ∧ LF F w7 g2 (some ⟨g2, off, none⟩) ns) := by
          have t0 : Touch (fun _ => False) wr wr.drew := (Touch.refl _ wr).drew
          exact ⟨_, _, HR2.out, h7, (HF.out.1.touch t0).step hs7, (HF.out.2.1.touch t0).step hs7, (HF.out.2.2.touch t0).step hs7⟩
        clear h7 hs7 HRen HR2 HR HL HF
        go_wp2_with fail
        go_roundw
        case rel => exact ⟨k + 1, 4, by go_num, by omega, rfl, HZ.out⟩
        case measure => simp [intOf]; omega
    · have hke : k = ns.length := by omega
      obtain ⟨c, hc, hpl⟩ := place_nat kp (b.length + 1) (by omega)
      have HPl : Hid (∀ W, Calls Try.prog 39 #[.int .i64 kp, .int .i64 ((b.length : Int) + 1)] W fun e w' => e = .returned (.int .i64 (c : Int)) ∧ w' = W) := by
        intro W
        have := place_any kp ((b.length + 1 : Nat) : Int) hk (by omega) W
        rw [hpl] at this
        exact this
      obtain ⟨n, hn12, hlist, hn3, hfl, hcr⟩ := ren_end HR.out c (by simp; omega)
      have HCr : Hid (∀ keep : List Int, keep[0]? = some (c : Int) → mRead (mCrash s keep) (fiveKey m) = (a ++ b).take (a.length + c) ∧ (mCrash s keep).err (fiveKey m) = 0 ∧ (mCrash s keep).fs.length = n) := hcr
      have HFl : Hid (s.fs.length = n) := hfl
      have H : Hid (Calls Try.prog 36 #[dp d] wr fun e w' => (∃ gl cl, e = .returned (.slice (some ⟨gl, 0, none⟩) n cl) ∧ Free F w' gl ∧ w'.cell? ⟨gl, 0, none⟩ = some (.string (fiveStr m)) ∧ (n = 2 → w'.cell? ⟨gl, 1, none⟩ = some (.string ⟨#[122]⟩))) ∧ Live w1 w' d F s ∧ Touch (fun _ => False) wr w') := by
        refine (lList HL.out hsl).mono ?_
        rintro e w' ⟨⟨v, rfl, hrow, t⟩, h2⟩
        rw [hlist] at hrow
        have hln : ((fiveKey m :: [[122]]).take n).length = n := by rcases hn12 with rfl | rfl <;> rfl
        rw [hln] at hrow
        rcases hrow.2 with ⟨_, h0⟩ | ⟨gl, cl, cur, e, hb, hg, q1, q2, q3, q4⟩
        · omega
        · refine ⟨⟨gl, cl, by rw [e], HL.out.free t.size hb (lt_of_heap hg), ?_, ?_⟩, h2, t⟩
          · rw [cell_of_block hg]
            have h5 : (((fiveKey m :: [[122]]).take n).map Go.Proofs.encStr)[0]? = some (.string (fiveStr m)) := by rcases hn12 with rfl | rfl <;> rfl
            rw [← q4, List.getElem?_take] at h5
            rw [if_pos (by omega)] at h5
            rw [← h5, Array.getElem?_toList]
          · rintro rfl
            rw [cell_of_block hg]
            have h5 : (((fiveKey m :: [[122]]).take 2).map Go.Proofs.encStr)[1]? = some (.string ⟨#[122]⟩) := rfl
            rw [← q4, List.getElem?_take] at h5
            rw [if_pos (by omega)] at h5
            rw [← h5, Array.getElem?_toList]
      have hne : n = 2 → ([122] == (fiveStr m).toList) = false := by
        intro h2
        have := HR.out.1
        have := hn3 h2
        rw [ByteArray.toList_eq]
        rcases (show m = 0 ∨ m = 1 ∨ m = 2 ∨ m = 4 from by omega) with rfl | rfl | rfl | rfl <;> rfl
      clear hlist hn3 hfl hcr HL HR hpl hsl
      subst hke
      go_wp2_with fail
      refine H.out.mono ?_
      rintro e wl ⟨⟨gl, cl, rfl, hfree, hc0l, hc1l⟩, hL, tl⟩
      have HLl : Hid (Live w1 wl d F s) := hL
      have HFl2 : Hid (LF F wl g0 ao a ∧ LF F wl g1 bo b ∧ Free F wl gl) := ⟨HF.out.1.touch tl, HF.out.2.1.touch tl, hfree⟩
      clear hL tl hfree H HF
      go_wp2_with fail
      go_loopw [14, 15] (fun kq i wx => ∃ j : Nat, i = .int .i64 (j : Int) ∧ j ≤ n ∧ kq = .int .i64 0 ∧ wx = wl) (fun _ i _ => (n - intOf i).toNat)
      case atStart => exact ⟨0, rfl, Nat.zero_le _, rfl, rfl⟩
      case round =>
        obtain ⟨j, rfl, hj, rfl, hwx⟩ := hrel
        rw [hwx]
        by_cases hjn : j < n
        · rcases (show j = 0 ∨ (j = 1 ∧ n = 2) from by omega) with rfl | ⟨rfl, hn2⟩
          · have hS := bbeq_self (fiveStr m)
            go_wp2_with fail
            exact ⟨⟨1, rfl, by omega, rfl, trivial⟩, by simp [intOf]; omega⟩
          · subst hn2
            have hc1 := hc1l rfl
            have hne1 := hne rfl
            go_wp2_with fail
            exact ⟨⟨2, rfl, by omega, rfl, trivial⟩, by simp [intOf]⟩
        · have hje : j = n := by omega
          subst hje
          clear hc0l hc1l hne hjn
          rcases hn12 with rfl | rfl
          · have hmk : ∀ W : World, (Instr.makeSlice 30 (.int .i64 1) (.int .i64 1)).run Try.prog W = .ok (.slice (some ⟨W.heap.size, 0, none⟩) 1 1) (W.alloc (.cells #[.int .i64 0] 3)) := fun W => by kernel_rfl
            go_wp2_with fail
            refine (HPl.out _).mono ?_
            rintro e wp ⟨rfl, hw⟩
            rw [hw]; clear hw HPl hmk
            have H : Hid (Calls Try.prog 30 #[dp d, .slice (some ⟨wl.heap.size, 0, none⟩) 1 1] (wl.alloc (.cells #[.int .i64 (c : Int)] 3)) fun e w' => e = .returned (.tuple #[]) ∧ LPost w1 d F (mCrash s [(c : Int)]) (wl.alloc (.cells #[.int .i64 (c : Int)] 3)) w') := by
              have hb := heap_alloc_new wl (.cells #[.int .i64 (c : Int)] 3)
              refine lCrash (HLl.out.touch ((Touch.refl _ wl).alloc _)) (by rw [HFl.out]; decide) wl.heap.size _ [(c : Int)] 1 1 rfl ?_ ?_ ?_ (by simp)
              · refine .inr ⟨0, rfl, fun j hj => ?_⟩
                rw [cell_of_block hb]
                rcases (show j = 0 ∨ j = 1 - 1 from by simp at hj; omega) with rfl | rfl <;> rfl
              · intro y hy
                simp at hy
                omega
              · intro _ hF
                exact Nat.lt_irrefl _ (HLl.out.disk.lt hF)
            have HRun := fun t => HCr.out [(c : Int)] t
            go_wp2_with fail
            refine H.out.mono ?_
            rintro e wk ⟨rfl, Fc, hLc, hsC⟩
            obtain ⟨m1, m2, m3⟩ := HRun rfl
            have t0 : Touch (fun _ => False) wl (wl.alloc (.cells #[.int .i64 (c : Int)] 3)) := (Touch.refl _ wl).alloc _
            have HFc : Hid (LF Fc wk g0 ao a ∧ LF Fc wk g1 bo b ∧ wk.heap[wl.heap.size]? = some (.cells #[.int .i64 (c : Int)] 3 (0, 0))) :=
              ⟨(HFl2.out.1.touch t0).step hsC, (HFl2.out.2.1.touch t0).step hsC, by rw [hsC.touch.block wl.heap.size (by simp) (fun hF => Nat.lt_irrefl _ (HLl.out.disk.lt hF))]; exact heap_alloc_new _ _⟩
            have HRd : Hid (Calls Try.prog 23 #[dp d, .string (fiveStr m)] wk fun e w' => (∃ ro rc rg, e = .returned (.tuple #[.slice ro (a.length + c) rc, .int .i64 0]) ∧ Lies w' rg ro (a ++ b.take c)) ∧ Touch (fun _ => False) wk w' ∧ Touch (fun _ => False) w1 w') := by
              refine (lRead2 hLc (by rw [m3]; decide) (fiveStr m) (by show (fiveKey m).toArray.size ≤ _; simp [fiveKey])).mono ?_
              rintro e w' ⟨⟨ro, rc, rg, he, hL, _⟩, hl2, t⟩
              have e1 : mRead (mCrash s [(c : Int)]) (fiveStr m).data.toList = a ++ b.take c := m1.trans (by simp only [List.take_append, Nat.add_sub_cancel_left]; rw [List.take_of_length_le (by omega)])
              have e2 : (mCrash s [(c : Int)]).err (fiveStr m).data.toList = 0 := m2
              rw [e1, e2, show (a ++ b.take c).length = a.length + c from by simp; omega] at he
              rw [e1] at hL
              exact ⟨⟨ro, rc, rg, he, hL.lies⟩, t, hl2.since⟩
            clear hLc hsC m1 m2 m3 t0 H HRun HCr HLl HFl2
            go_upto_region 28 with fail
            go_cut [17, 18] (fun t u wx => ∃ ro rc, t = .slice ro (a.length + c) rc ∧ u = .int .i64 0 ∧ Hid (∃ rg, Lies wx rg ro (a ++ b.take c) ∧ Touch (fun _ => False) wk wx ∧ Touch (fun _ => False) w1 wx))
            case first =>
              go_wp2_with fail
              refine HRd.out.mono ?_
              rintro e wv ⟨⟨ro, rc, rg, rfl, hLr⟩, tv, ts⟩
              have HZ0 : Hid (∃ rg, Lies wv rg ro (a ++ b.take c) ∧ Touch (fun _ => False) wk wv ∧ Touch (fun _ => False) w1 wv) := ⟨rg, hLr, tv, ts⟩
              clear hLr tv ts
              go_wp2_with fail
              go_meet
              case rel => exact ⟨ro, rc, rfl, rfl, HZ0⟩
            case rest =>
            obtain ⟨ro, rc, rfl, rfl, HZ0⟩ := hcut
            obtain ⟨rg, hLr, tv, ts⟩ := HZ0.out
            have hka : wc.heap[wl.heap.size]? = some (.cells #[.int .i64 (c : Int)] 3 (0, 0)) := by rw [tv.block _ (lt_of_heap HFc.out.2.2) id]; exact HFc.out.2.2
            have td : Touch (fun _ => False) wc wc.drew := (Touch.refl _ wc).drew
            obtain ⟨v1, wA, hr1, hG1⟩ := run_append_bytes wc.drew (.slice none 0 0) [] (World.ownsRow_nil _ _ _ _) g0 ao a.length c0 a rfl HN0.out ((HFc.out.1.touch tv).touch td).lies (by simp; omega)
            rw [List.nil_append] at hG1
            have tA : Touch (fun _ => False) wc.drew wA := hG1.touch.mono fun k _ e => by simp [Value.ownBlock] at e
            obtain ⟨vo1, vc1, vg1, hv1, -⟩ := lies_of_owned hG1.is
            subst hv1
            have hbt : (b.take c).length = c := by simp; omega
            obtain ⟨v2, wB, hr2, hG2⟩ := run_append_bytes wA _ a hG1.is g1 bo c c1 (b.take c) hbt.symm HN1.out ((((HFc.out.2.1.touch tv).touch td).touch tA).take c).lies (by rw [hbt]; omega)
            have hG3 := hG1.trans hG2
            have tB : Touch (fun _ => False) wc.drew wB := hG3.touch.mono fun k _ e => by simp [Value.ownBlock] at e
            have HZ : Hid (Touch (fun _ => False) w wB) := ((HT1.out.trans ts).trans td).trans tB
            have hb0 : (wc.drew).heap[wl.heap.size]? = some (.cells #[.int .i64 (c : Int)] 3 (0, 0)) := hka
            have k0 : wc.drew.cell? ⟨wl.heap.size, 0, none⟩ = some (.int .i64 (c : Int)) := by rw [cell_of_block hb0]; rfl
            have kA : wA.cell? ⟨wl.heap.size, 0, none⟩ = some (.int .i64 (c : Int)) := by rw [cell_of_block ((tA.block _ (lt_of_heap hb0) id).trans hb0)]; rfl
            have kB : wB.cell? ⟨wl.heap.size, 0, none⟩ = some (.int .i64 (c : Int)) := by rw [cell_of_block ((tB.block _ (lt_of_heap hb0) id).trans hb0)]; rfl
            obtain ⟨vo2, vc2, vg2, hv2, hvL, -⟩ := lies_of_owned hG3.is
            have hxl : (a ++ b.take c).length = a.length + c := by simp; omega
            rw [hxl] at hv2
            subst hv2
            have HBy : Hid (Calls Try.prog 25 #[.slice ro (a.length + c) rc, .slice vo2 (a.length + c) vc2] wB fun e w' => e = .returned (.bool true) ∧ w' = wB) := by
              have := help_bytes rg vg2 ro vo2 (a ++ b.take c) (a ++ b.take c) (a.length + c) (a.length + c) rc vc2 hxl.symm hxl.symm wB (hLr.keep fun e => (td.trans tB).block rg (hLr.lt e) id) hvL
              rw [show ((a ++ b.take c) == (a ++ b.take c)) = true from by simp] at this
              exact this
            have hsl := fun W => slice_to bo b.length c1 c (by omega) W
            clear hka td hG1 tA hG2 hG3 tB hb0 hvL hLr tv ts HFc HRd hbt hxl
            clear hc0 hm0 ha hm1 hb hc2 hm2 hns hk HN0 HN1 hlen hl2 hlen2 hl3 kc hj HZ0
            go_wp2_with fail
            go_region_held3 (fun W => W.cell? ⟨wl.heap.size, 0, none⟩ = some (.int .i64 (c : Int))) (first | assumption)
              (first | (refine step_append_run (by rfl) _ _ rfl _ _ _ rfl rfl hr1 ?_) | (refine step_append_run (by rfl) _ _ rfl _ _ _ rfl rfl hr2 ?_) | (go_at_call 25; (with_reducible refine HBy.out.mono ?_); rintro e w2 ⟨rfl, hw⟩; rw [hw]; clear hw))
            all_goals (try go_wp2_with fail)
            all_goals (go_ret; exact ⟨rfl, HZ.out⟩)
          · have hmk : ∀ W : World, (Instr.makeSlice 30 (.int .i64 2) (.int .i64 2)).run Try.prog W = .ok (.slice (some ⟨W.heap.size, 0, none⟩) 2 2) (W.alloc (.cells #[.int .i64 0, .int .i64 0] 3)) := fun W => by kernel_rfl
            go_wp2_with fail
            refine (HPl.out _).mono ?_
            rintro e wp ⟨rfl, hw⟩
            rw [hw]; clear hw HPl hmk
            have H : Hid (Calls Try.prog 30 #[dp d, .slice (some ⟨wl.heap.size, 0, none⟩) 2 2] (wl.alloc (.cells #[.int .i64 (c : Int), .int .i64 0] 3)) fun e w' => e = .returned (.tuple #[]) ∧ LPost w1 d F (mCrash s [(c : Int), 0]) (wl.alloc (.cells #[.int .i64 (c : Int), .int .i64 0] 3)) w') := by
              have hb := heap_alloc_new wl (.cells #[.int .i64 (c : Int), .int .i64 0] 3)
              refine lCrash (HLl.out.touch ((Touch.refl _ wl).alloc _)) (by rw [HFl.out]; decide) wl.heap.size _ [(c : Int), 0] 2 2 rfl ?_ ?_ ?_ (by simp)
              · refine .inr ⟨0, rfl, fun j hj => ?_⟩
                rw [cell_of_block hb]
                rcases (show j = 0 ∨ j = 2 - 1 from by simp at hj; omega) with rfl | rfl <;> rfl
              · intro y hy
                simp at hy
                omega
              · intro _ hF
                exact Nat.lt_irrefl _ (HLl.out.disk.lt hF)
            have HRun := fun t => HCr.out [(c : Int), 0] t
            go_wp2_with fail
            refine H.out.mono ?_
            rintro e wk ⟨rfl, Fc, hLc, hsC⟩
            obtain ⟨m1, m2, m3⟩ := HRun rfl
            have t0 : Touch (fun _ => False) wl (wl.alloc (.cells #[.int .i64 (c : Int), .int .i64 0] 3)) := (Touch.refl _ wl).alloc _
            have HFc : Hid (LF Fc wk g0 ao a ∧ LF Fc wk g1 bo b ∧ wk.heap[wl.heap.size]? = some (.cells #[.int .i64 (c : Int), .int .i64 0] 3 (0, 0))) :=
              ⟨(HFl2.out.1.touch t0).step hsC, (HFl2.out.2.1.touch t0).step hsC, by rw [hsC.touch.block wl.heap.size (by simp) (fun hF => Nat.lt_irrefl _ (HLl.out.disk.lt hF))]; exact heap_alloc_new _ _⟩
            have HRd : Hid (Calls Try.prog 23 #[dp d, .string (fiveStr m)] wk fun e w' => (∃ ro rc rg, e = .returned (.tuple #[.slice ro (a.length + c) rc, .int .i64 0]) ∧ Lies w' rg ro (a ++ b.take c)) ∧ Touch (fun _ => False) wk w' ∧ Touch (fun _ => False) w1 w') := by
              refine (lRead2 hLc (by rw [m3]; decide) (fiveStr m) (by show (fiveKey m).toArray.size ≤ _; simp [fiveKey])).mono ?_
              rintro e w' ⟨⟨ro, rc, rg, he, hL, _⟩, hl2, t⟩
              have e1 : mRead (mCrash s [(c : Int), 0]) (fiveStr m).data.toList = a ++ b.take c := m1.trans (by simp only [List.take_append, Nat.add_sub_cancel_left]; rw [List.take_of_length_le (by omega)])
              have e2 : (mCrash s [(c : Int), 0]).err (fiveStr m).data.toList = 0 := m2
              rw [e1, e2, show (a ++ b.take c).length = a.length + c from by simp; omega] at he
              rw [e1] at hL
              exact ⟨⟨ro, rc, rg, he, hL.lies⟩, t, hl2.since⟩
            clear hLc hsC m1 m2 m3 t0 H HRun HCr HLl HFl2
            go_upto_region 28 with fail
            go_cut [17, 18] (fun t u wx => ∃ ro rc, t = .slice ro (a.length + c) rc ∧ u = .int .i64 0 ∧ Hid (∃ rg, Lies wx rg ro (a ++ b.take c) ∧ Touch (fun _ => False) wk wx ∧ Touch (fun _ => False) w1 wx))
            case first =>
              go_wp2_with fail
              refine HRd.out.mono ?_
              rintro e wv ⟨⟨ro, rc, rg, rfl, hLr⟩, tv, ts⟩
              have HZ0 : Hid (∃ rg, Lies wv rg ro (a ++ b.take c) ∧ Touch (fun _ => False) wk wv ∧ Touch (fun _ => False) w1 wv) := ⟨rg, hLr, tv, ts⟩
              clear hLr tv ts
              go_wp2_with fail
              go_meet
              case rel => exact ⟨ro, rc, rfl, rfl, HZ0⟩
            case rest =>
            obtain ⟨ro, rc, rfl, rfl, HZ0⟩ := hcut
            obtain ⟨rg, hLr, tv, ts⟩ := HZ0.out
            have hka : wc.heap[wl.heap.size]? = some (.cells #[.int .i64 (c : Int), .int .i64 0] 3 (0, 0)) := by rw [tv.block _ (lt_of_heap HFc.out.2.2) id]; exact HFc.out.2.2
            have td : Touch (fun _ => False) wc wc.drew := (Touch.refl _ wc).drew
            obtain ⟨v1, wA, hr1, hG1⟩ := run_append_bytes wc.drew (.slice none 0 0) [] (World.ownsRow_nil _ _ _ _) g0 ao a.length c0 a rfl HN0.out ((HFc.out.1.touch tv).touch td).lies (by simp; omega)
            rw [List.nil_append] at hG1
            have tA : Touch (fun _ => False) wc.drew wA := hG1.touch.mono fun k _ e => by simp [Value.ownBlock] at e
            obtain ⟨vo1, vc1, vg1, hv1, -⟩ := lies_of_owned hG1.is
            subst hv1
            have hbt : (b.take c).length = c := by simp; omega
            obtain ⟨v2, wB, hr2, hG2⟩ := run_append_bytes wA _ a hG1.is g1 bo c c1 (b.take c) hbt.symm HN1.out ((((HFc.out.2.1.touch tv).touch td).touch tA).take c).lies (by rw [hbt]; omega)
            have hG3 := hG1.trans hG2
            have tB : Touch (fun _ => False) wc.drew wB := hG3.touch.mono fun k _ e => by simp [Value.ownBlock] at e
            have HZ : Hid (Touch (fun _ => False) w wB) := ((HT1.out.trans ts).trans td).trans tB
            have hb0 : (wc.drew).heap[wl.heap.size]? = some (.cells #[.int .i64 (c : Int), .int .i64 0] 3 (0, 0)) := hka
            have k0 : wc.drew.cell? ⟨wl.heap.size, 0, none⟩ = some (.int .i64 (c : Int)) := by rw [cell_of_block hb0]; rfl
            have kA : wA.cell? ⟨wl.heap.size, 0, none⟩ = some (.int .i64 (c : Int)) := by rw [cell_of_block ((tA.block _ (lt_of_heap hb0) id).trans hb0)]; rfl
            have kB : wB.cell? ⟨wl.heap.size, 0, none⟩ = some (.int .i64 (c : Int)) := by rw [cell_of_block ((tB.block _ (lt_of_heap hb0) id).trans hb0)]; rfl
            obtain ⟨vo2, vc2, vg2, hv2, hvL, -⟩ := lies_of_owned hG3.is
            have hxl : (a ++ b.take c).length = a.length + c := by simp; omega
            rw [hxl] at hv2
            subst hv2
            have HBy : Hid (Calls Try.prog 25 #[.slice ro (a.length + c) rc, .slice vo2 (a.length + c) vc2] wB fun e w' => e = .returned (.bool true) ∧ w' = wB) := by
              have := help_bytes rg vg2 ro vo2 (a ++ b.take c) (a ++ b.take c) (a.length + c) (a.length + c) rc vc2 hxl.symm hxl.symm wB (hLr.keep fun e => (td.trans tB).block rg (hLr.lt e) id) hvL
              rw [show ((a ++ b.take c) == (a ++ b.take c)) = true from by simp] at this
              exact this
            have hsl := fun W => slice_to bo b.length c1 c (by omega) W
            clear hka td hG1 tA hG2 hG3 tB hb0 hvL hLr tv ts HFc HRd hbt hxl
            clear hc0 hm0 ha hm1 hb hc2 hm2 hns hk HN0 HN1 hlen hl2 hlen2 hl3 kc hj HZ0
            go_wp2_with fail
            go_region_held3 (fun W => W.cell? ⟨wl.heap.size, 0, none⟩ = some (.int .i64 (c : Int))) (first | assumption)
              (first | (refine step_append_run (by rfl) _ _ rfl _ _ _ rfl rfl hr1 ?_) | (refine step_append_run (by rfl) _ _ rfl _ _ _ rfl rfl hr2 ?_) | (go_at_call 25; (with_reducible refine HBy.out.mono ?_); rintro e w2 ⟨rfl, hw⟩; rw [hw]; clear hw))
            all_goals (try go_wp2_with fail)
            all_goals (go_ret; exact ⟨rfl, HZ.out⟩)
end Go.Proofs.Ytfeojfcnphjbdaa
