/- quirelaw4.DiskTruncates returns true. -/
import Derived.Test.YtahikcjgnnmnbabKnown4
import Derived.Test.YtahikcjgnnmnbabOneF
namespace Go.Proofs.Ytahikcjgnnmnbab
open Go.RowKit Go.Maps Go.Sort
set_option linter.unusedVariables false

theorem take_app (a b : List UInt8) (c y : Nat) (hc : c ≤ a.length) (hy : y ≤ c) : (a.take c ++ b).take y = a.take y := by
  rw [List.take_append_of_le_length (by simp; omega), List.take_take]
  congr 1; omega

set_option maxRecDepth 100000 in
set_option maxHeartbeats 3200000 in
theorem diskTruncates_any (w : World) (g0 : Nat) (ao : Option Addr) (a : List UInt8) (n0 c0 : Nat) (hn0 : n0 = a.length) (hno0 : ao = none → c0 = 0) (hL0 : Lies w g0 ao a) (hc0 : a.length ≤ c0) (hm0 : c0 ≤ maxLen) (ha : a.length ≤ 140737488355328)
    (g1 : Nat) (bo : Option Addr) (b : List UInt8) (n1 c1 : Nat) (hn1 : n1 = b.length) (hno1 : bo = none → c1 = 0) (hL1 : Lies w g1 bo b) (hc1 : b.length ≤ c1) (hm1 : c1 ≤ maxLen) (hb : b.length ≤ 140737488355328)
    (n : Int) (hn : -9223372036854775808 ≤ n ∧ n ≤ 9223372036854775807) (sy : Bool) :
    Calls Try.prog 3 #[.slice ao n0 c0, .slice bo n1 c1, .int .i64 n, .bool sy] w fun e w' => e = .returned (.bool true) ∧ Touch (fun _ => False) w w' := by
  subst hn0 hn1
  unfold maxLen at hm0
  have HK : Hid (Calls Try.prog 4 #[] w fun e w' => e = .returned (.bool true) ∧ Touch (fun _ => False) w w') := known_any w
  have HLa : Hid (Lies w g0 ao a) := hL0
  have HLb : Hid (Lies w g1 bo b) := hL1
  have HN0 : Hid (ao = none → c0 = 0) := hno0
  have HN1 : Hid (bo = none → c1 = 0) := hno1
  clear hL0 hL1 hno0 hno1 hc1 hm1
  by_cases hlen : 3000 < a.length + b.length
  · have hl2 : (3000 : Int) < (a.length : Int) + (b.length : Int) := by omega
    go_enter Try.func3, Try.ntmps3
    go_wp2_with fail
    refine HK.out.mono ?_
    rintro e w1 ⟨rfl, hT⟩
    have HT : Hid (Touch (fun _ => False) w w1) := hT
    clear hT HK
    go_wp2_with fail
    go_ret
    exact ⟨rfl, HT.out⟩
  have hl2 : ¬ (3000 : Int) < (a.length : Int) + (b.length : Int) := by omega
  obtain ⟨c, hc, hpl⟩ := place_nat n (a.length + 3) (by omega)
  obtain ⟨c', hc'⟩ : ∃ c', c' = min c a.length := ⟨_, rfl⟩
  have hmin : min (c : Int) (a.length : Int) = (c' : Int) := by omega
  have hcut : cutAt (c : Int) a.length = c' := by unfold cutAt; omega
  have hcl : c' ≤ a.length := by omega
  have HPl : Hid (∀ W, Calls Try.prog 8 #[.int .i64 n, .int .i64 ((a.length : Int) + 3)] W fun e w' => e = .returned (.int .i64 (c : Int)) ∧ w' = W) := by
    intro W
    have := place_any n ((a.length + 3 : Nat) : Int) hn (by omega) W
    rw [hpl] at this
    exact this
  have hlt : (a.take c').length = c' := by simp; omega
  obtain ⟨y, hy, hya⟩ : ∃ y, y = (if sy then a.length else 0) ∧ y ≤ a.length := ⟨_, rfl, by split <;> omega⟩
  obtain ⟨lf, hlf⟩ : ∃ lf, lf = a.take c' := ⟨_, rfl⟩
  obtain ⟨x, hx⟩ : ∃ x, x = lf ++ b := ⟨_, rfl⟩
  obtain ⟨z, hz⟩ : ∃ z, z = a.take (min y c') := ⟨_, rfl⟩
  rw [← hlf] at hlt
  have e3 : mTrunc (one [102] (a, y) 1048576) [102] (c : Int) = one [102] (lf, min y c') 1048576 := by rw [one_trunc, hcut, hlf]
  have e4 : mAppend (one [102] (lf, min y c') 1048576) [102] b = one [102] (x, min y c') 1048576 := by rw [hx]; exact one_append (by decide) (by rw [hlt]; omega) (by rw [hlt]; omega)
  have e5 : mCrash (one [102] (x, min y c') 1048576) [] = one [102] (z, min y c') 1048576 := by
    rw [one_crash, hx, hlf, take_app a b c' _ hcl (by omega), hz]
  have HN : Hid (∀ W, Calls Try.prog 5 #[.int .i64 1048576] W fun e w' => ∃ d F, e = .returned (dp d) ∧ Live W w' d F (newSt 1048576)) := fun W => lNew 1048576 (by decide) W
  have HA1 : Hid (∀ W0 W d F, Live W0 W d F (newSt 1048576) → Lies W g0 ao a → Calls Try.prog 6 #[dp d, .string ⟨#[102]⟩, .slice ao a.length c0] W fun e w' => e = .returned (.int .i64 0) ∧ LPost W0 d F (one [102] (a, 0) 1048576) W w') := by
    intro W0 W d F h hL
    have := lAppend h (by decide) ⟨#[102]⟩ (by decide) g0 ao a a.length c0 rfl HN0.out hL (by omega)
    have e0 : appE (newSt 1048576) (⟨#[102]⟩ : ByteArray).data.toList a = 0 := new_appE (by decide) (by omega) (by omega) (by decide)
    have e1 : mAppend (newSt 1048576) (⟨#[102]⟩ : ByteArray).data.toList a = one [102] (a, 0) 1048576 := new_append (by decide) (by omega) (by omega) (by decide)
    rw [e0, e1] at this
    exact this
  have HS : Hid (∀ W0 W d F, Live W0 W d F (one [102] (a, 0) 1048576) → Calls Try.prog 7 #[dp d, .string ⟨#[102]⟩] W fun e w' => e = .returned (.int .i64 0) ∧ LPost W0 d F (one [102] (a, a.length) 1048576) W w') := by
    intro W0 W d F h
    have := lSync h one_len ⟨#[102]⟩ (by decide)
    have e0 : (one [102] (a, 0) 1048576).err (⟨#[102]⟩ : ByteArray).data.toList = 0 := one_err
    have e1 : mSync (one [102] (a, 0) 1048576) (⟨#[102]⟩ : ByteArray).data.toList = one [102] (a, a.length) 1048576 := one_sync
    rw [e0, e1] at this
    exact this
  have HTr : Hid (∀ W0 W d F, Live W0 W d F (one [102] (a, y) 1048576) → Calls Try.prog 9 #[dp d, .string ⟨#[102]⟩, .int .i64 (c : Int)] W fun e w' => e = .returned (.int .i64 0) ∧ LPost W0 d F (one [102] (lf, min y c') 1048576) W w') := by
    intro W0 W d F h
    have := lTrunc h one_len ⟨#[102]⟩ (by decide) (c : Int) (by omega)
    have e0 : (one [102] (a, y) 1048576).err (⟨#[102]⟩ : ByteArray).data.toList = 0 := one_err
    have e1 : mTrunc (one [102] (a, y) 1048576) (⟨#[102]⟩ : ByteArray).data.toList (c : Int) = _ := e3
    rw [e0, e1] at this
    exact this
  have HA2 : Hid (∀ W0 W d F, Live W0 W d F (one [102] (lf, min y c') 1048576) → Lies W g1 bo b → Calls Try.prog 6 #[dp d, .string ⟨#[102]⟩, .slice bo b.length c1] W fun e w' => e = .returned (.int .i64 0) ∧ LPost W0 d F (one [102] (x, min y c') 1048576) W w') := by
    intro W0 W d F h hL
    have := lAppend h one_len ⟨#[102]⟩ (by decide) g1 bo b b.length c1 rfl HN1.out hL (by omega)
    have e0 : appE (one [102] (lf, min y c') 1048576) (⟨#[102]⟩ : ByteArray).data.toList b = 0 := one_appE (by decide) (by rw [hlt]; omega) (by rw [hlt]; omega)
    have e1 : mAppend (one [102] (lf, min y c') 1048576) (⟨#[102]⟩ : ByteArray).data.toList b = _ := e4
    rw [e0, e1] at this
    exact this
  have HR : Hid (∀ W0 W d F x z, Live W0 W d F (one [102] (x, z) 1048576) → Calls Try.prog 10 #[dp d, .string ⟨#[102]⟩] W fun e w' => (∃ ro rc rg, e = .returned (.tuple #[.slice ro x.length rc, .int .i64 0]) ∧ LF F w' rg ro x) ∧ Live W0 w' d F (one [102] (x, z) 1048576) ∧ Touch (fun _ => False) W w') := by
    intro W0 W d F x z h
    refine (lRead h one_len ⟨#[102]⟩ (by decide)).mono ?_
    rintro e w' ⟨⟨v, rfl, hrow⟩, h2, t⟩
    have e0 : (one [102] (x, z) 1048576).err (⟨#[102]⟩ : ByteArray).data.toList = 0 := one_err
    have e1 : mRead (one [102] (x, z) 1048576) (⟨#[102]⟩ : ByteArray).data.toList = x := one_read
    rw [e1] at hrow
    rw [e0]
    obtain ⟨ro, rc, rg, rfl, hl, _⟩ := h.read t.size hrow
    exact ⟨⟨ro, rc, rg, rfl, hl⟩, h2, t⟩
  have HU : Hid (∀ W0 W d F, Live W0 W d F (one [102] (x, min y c') 1048576) → Calls Try.prog 12 #[dp d] W fun e w' => e = .returned (.int .i64 ((c' : Int) + (b.length : Int))) ∧ w' = W) := by
    intro W0 W d F h
    have := lUsed h
    rw [one_used, hx, List.length_append, hlt] at this
    exact this
  have HC : Hid (∀ W0 W d F, Live W0 W d F (one [102] (x, min y c') 1048576) → Calls Try.prog 13 #[dp d, .slice none 0 0] W fun e w' => e = .returned (.tuple #[]) ∧ LPost W0 d F (one [102] (z, min y c') 1048576) W w') := by
    intro W0 W d F h
    have := lCrash h one_len 0 none [] 0 0 rfl (.inl rfl) (by intro x hx; cases hx) (fun h => absurd rfl h) (by decide)
    rw [e5] at this
    exact this
  clear e3 e4 e5 hcut hpl
  cases sy with
  | true =>
    rw [if_pos rfl] at hy
    have HY : Hid (y = a.length) := hy
    have HZL : Hid (z = lf) := by rw [hz, hlf]; congr 1; omega
    have HLQ : Hid (lf = a.take c') := hlf
    have HXQ : Hid (x = lf ++ b) := hx
    have HLT : Hid (lf.length = c') := hlt
    have hcz : (c' : Int) ≤ (a.length : Int) := by omega
    clear hz hy hlf hx hlt hc'
    go_enter Try.func3, Try.ntmps3
    go_wp2_with fail
    refine HK.out.mono ?_
    rintro e w1 ⟨rfl, hT1⟩
    have HT1 : Hid (Touch (fun _ => False) w w1) := hT1
    clear hT1 HK
    go_wp2_with fail
    refine (HN.out w1).mono ?_
    rintro e w2 ⟨d, F2, rfl, h⟩
    have HF2 : Hid (LF F2 w2 g0 ao a ∧ LF F2 w2 g1 bo b) := ⟨lf_old h HT1.out HLa.out, lf_old h HT1.out HLb.out⟩
    clear HN HLa HLb
    have HX := HA1.out _ _ _ _ h HF2.out.1.lies
    have H : Hid (Calls Try.prog _ _ w2 _) := HX
    clear h HX
    go_wp2_with fail
    refine H.out.mono ?_
    rintro e w3 ⟨rfl, F3, h, hS⟩
    have HF3 : Hid (LF F3 w3 g0 ao a ∧ LF F3 w3 g1 bo b) := ⟨HF2.out.1.step hS, HF2.out.2.step hS⟩
    clear hS H HF2
    have HX := HS.out _ _ _ _ h
    have H : Hid (Calls Try.prog _ _ w3 _) := HX
    clear h HX
    go_wp2_with fail
    refine H.out.mono ?_
    rintro e w4 ⟨rfl, F4, h, hS⟩
    have HF4 : Hid (LF F4 w4 g0 ao a ∧ LF F4 w4 g1 bo b) := ⟨HF3.out.1.step hS, HF3.out.2.step hS⟩
    clear hS H HF3
    have HL4 : Hid (Live w1 w4 d F4 (one [102] (a, y) 1048576)) := by rw [HY.out]; exact h
    clear h
    go_wp2_with fail
    refine (HPl.out _).mono ?_
    rintro e w5 ⟨rfl, hw⟩
    rw [hw]; clear hw
    have HX := HTr.out _ _ _ _ HL4.out
    have H : Hid (Calls Try.prog _ _ w4 _) := HX
    clear HX
    go_wp2_with fail
    refine H.out.mono ?_
    rintro e w5 ⟨rfl, F5, h, hS⟩
    have HF5 : Hid (LF F5 w5 g0 ao a ∧ LF F5 w5 g1 bo b) := ⟨HF4.out.1.step hS, HF4.out.2.step hS⟩
    clear hS H HF4 HL4 HTr HPl HS HA1
    have HX := HA2.out _ _ _ _ h HF5.out.2.lies
    have H : Hid (Calls Try.prog _ _ w5 _) := HX
    clear h HX HA2
    go_wp2_with fail
    refine H.out.mono ?_
    rintro e w6 ⟨rfl, F6, h, hS⟩
    have HF6 : Hid (LF F6 w6 g0 ao a ∧ LF F6 w6 g1 bo b) := ⟨HF5.out.1.step hS, HF5.out.2.step hS⟩
    clear hS H HF5
    have HX := HR.out _ _ _ _ _ _ h
    have H : Hid (Calls Try.prog _ _ w6 _) := HX
    clear h HX
    go_wp2_with fail
    refine H.out.mono ?_
    rintro e w7 ⟨⟨ro, rc, rg, rfl, hrl⟩, h, hT7⟩
    have HF7 : Hid (LF F6 w7 g0 ao a ∧ LF F6 w7 g1 bo b ∧ LF F6 w7 rg ro x) := ⟨HF6.out.1.touch hT7, HF6.out.2.touch hT7, hrl⟩
    have HL7 : Hid (Live w1 w7 d F6 (one [102] (x, min y c') 1048576)) := h
    have HLf : Hid (Lies w7 g0 ao lf) := by rw [HLQ.out]; exact HF7.out.1.lies.take c'
    clear h hT7 HF6 H hrl
    go_wp2_with (first | (at_builtin; refine wpList_append_bytes _ rfl _ _ rfl _ [] rfl (World.ownsRow_nil _ _ _ _) g0 ao c' c0 lf rfl HLT.out.symm HN0.out HLf.out (by have := HLT.out; simp; omega) ?_))
    intro v1 w8 hg1
    try rw [List.nil_append] at hg1
    have HG1 : Hid (Grow (.slice none 0 0) v1 lf w7 w8) := hg1
    have HT8 : Hid (Touch (fun _ => False) w7 w8) := hg1.touch.mono fun k _ e => by simp [Value.ownBlock] at e
    have HB8 : Hid (Lies w8 g1 bo b) := (HF7.out.2.1.touch HT8.out).lies
    obtain ⟨vo1, vc1, vg1, hv1, _⟩ := lies_of_owned hg1.is
    have HO1 : Hid (w8.ownsRow 0 5 1 v1 lf.length (cellsOf lf)) := hg1.is
    subst hv1
    clear hg1 HLf
    go_wp2_with (first | (at_builtin; refine wpList_append_bytes _ rfl _ _ rfl _ lf rfl HO1.out g1 bo b.length c1 b rfl rfl HN1.out HB8.out (by have := HLT.out; omega) ?_))
    intro v2 w9 hg2
    rw [← HXQ.out] at hg2
    have hG2 := HG1.out.trans hg2
    have HT9 : Hid (Touch (fun _ => False) w7 w9) := hG2.touch.mono fun k _ e => by simp [Value.ownBlock] at e
    obtain ⟨vo2, vc2, vg2, hv2, hvL, _⟩ := lies_of_owned hG2.is
    subst hv2
    have HBy : Hid (Calls Try.prog 11 #[.slice ro x.length rc, .slice vo2 x.length vc2] w9 fun e w' => e = .returned (.bool true) ∧ w' = w9) := by
      have := help_bytes rg vg2 ro vo2 x x x.length x.length rc vc2 rfl rfl w9 (HF7.out.2.2.touch HT9.out).lies hvL
      rw [show (x == x) = true from by simp] at this
      exact this
    have h9 := HL7.out.touch HT9.out
    have HL9 : Hid (Live w1 w9 d F6 (one [102] (x, min y c') 1048576)) := h9
    have HF9 : Hid (LF F6 w9 g0 ao a ∧ LF F6 w9 g1 bo b) := ⟨HF7.out.1.touch HT9.out, HF7.out.2.1.touch HT9.out⟩
    clear hg2 hG2 hvL h9 HF7 HL7 HG1 HO1 HB8 HT8 HT9
    go_wp2_with fail
    refine HBy.out.mono ?_
    rintro e wa ⟨rfl, hw⟩
    rw [hw]; clear hw HBy
    have HX := HU.out _ _ _ _ HL9.out
    have H : Hid (Calls Try.prog _ _ w9 _) := HX
    clear HX
    go_wp2_with fail
    refine H.out.mono ?_
    rintro e wa ⟨rfl, hw⟩
    rw [hw]; clear hw H
    have HX := HC.out _ _ _ _ HL9.out
    have H : Hid (Calls Try.prog _ _ w9 _) := HX
    clear HX HU HC
    go_wp2_with fail
    refine H.out.mono ?_
    rintro e wa ⟨rfl, Fa, h, hS⟩
    have HFa : Hid (LF Fa wa g0 ao a ∧ LF Fa wa g1 bo b) := ⟨HF9.out.1.step hS, HF9.out.2.step hS⟩
    clear hS H HF9 HL9
    have HX := HR.out _ _ _ _ _ _ h
    have H : Hid (Calls Try.prog _ _ wa _) := HX
    clear h HX HR
    go_wp2_with fail
    refine H.out.mono ?_
    rintro e wb ⟨⟨so, sc, sg, rfl, hrl⟩, h, hTb⟩
    have HZ : Hid (Touch (fun _ => False) w wb) := HT1.out.trans h.since
    have HBz : Hid (Calls Try.prog 11 #[.slice so z.length sc, .slice ao c' c0] wb fun e w' => e = .returned (.bool true) ∧ w' = wb) := by
      have hL2 : Lies wb g0 ao z := by rw [HZL.out, HLQ.out]; exact (HFa.out.1.touch hTb).lies.take c'
      have := help_bytes sg g0 so ao z z z.length c' sc c0 rfl (by rw [HZL.out, HLT.out]) wb hrl.lies hL2
      rw [show (z == z) = true from by simp] at this
      exact this
    clear h hTb hrl HFa H
    go_wp2_with fail
    refine HBz.out.mono ?_
    rintro e wc ⟨rfl, hw⟩
    rw [hw]; clear hw HBz
    go_wp2_with fail
    go_ret
    exact ⟨rfl, HZ.out⟩
  | false =>
    rw [if_neg (by decide)] at hy
    have HY : Hid (y = 0) := hy
    have HZL : Hid (z = []) := (by rw [hz, hy]; simp : z = [])
    have HLQ : Hid (lf = a.take c') := hlf
    have HXQ : Hid (x = lf ++ b) := hx
    have HLT : Hid (lf.length = c') := hlt
    have hcz : (c' : Int) ≤ (a.length : Int) := by omega
    clear hz hy hlf hx hlt hc'
    go_enter Try.func3, Try.ntmps3
    go_wp2_with fail
    refine HK.out.mono ?_
    rintro e w1 ⟨rfl, hT1⟩
    have HT1 : Hid (Touch (fun _ => False) w w1) := hT1
    clear hT1 HK
    go_wp2_with fail
    refine (HN.out w1).mono ?_
    rintro e w2 ⟨d, F2, rfl, h⟩
    have HF2 : Hid (LF F2 w2 g0 ao a ∧ LF F2 w2 g1 bo b) := ⟨lf_old h HT1.out HLa.out, lf_old h HT1.out HLb.out⟩
    clear HN HLa HLb
    have HX := HA1.out _ _ _ _ h HF2.out.1.lies
    have H : Hid (Calls Try.prog _ _ w2 _) := HX
    clear h HX
    go_wp2_with fail
    refine H.out.mono ?_
    rintro e w3 ⟨rfl, F3, h, hS⟩
    have HF3 : Hid (LF F3 w3 g0 ao a ∧ LF F3 w3 g1 bo b) := ⟨HF2.out.1.step hS, HF2.out.2.step hS⟩
    clear hS H HF2
    have HF4 := HF3
    clear HF3
    have HL4 : Hid (Live w1 w3 d F3 (one [102] (a, y) 1048576)) := by rw [HY.out]; exact h
    clear h
    go_wp2_with fail
    refine (HPl.out _).mono ?_
    rintro e w5 ⟨rfl, hw⟩
    rw [hw]; clear hw
    have HX := HTr.out _ _ _ _ HL4.out
    have H : Hid (Calls Try.prog _ _ w3 _) := HX
    clear HX
    go_wp2_with fail
    refine H.out.mono ?_
    rintro e w5 ⟨rfl, F5, h, hS⟩
    have HF5 : Hid (LF F5 w5 g0 ao a ∧ LF F5 w5 g1 bo b) := ⟨HF4.out.1.step hS, HF4.out.2.step hS⟩
    clear hS H HF4 HL4 HTr HPl HS HA1
    have HX := HA2.out _ _ _ _ h HF5.out.2.lies
    have H : Hid (Calls Try.prog _ _ w5 _) := HX
    clear h HX HA2
    go_wp2_with fail
    refine H.out.mono ?_
    rintro e w6 ⟨rfl, F6, h, hS⟩
    have HF6 : Hid (LF F6 w6 g0 ao a ∧ LF F6 w6 g1 bo b) := ⟨HF5.out.1.step hS, HF5.out.2.step hS⟩
    clear hS H HF5
    have HX := HR.out _ _ _ _ _ _ h
    have H : Hid (Calls Try.prog _ _ w6 _) := HX
    clear h HX
    go_wp2_with fail
    refine H.out.mono ?_
    rintro e w7 ⟨⟨ro, rc, rg, rfl, hrl⟩, h, hT7⟩
    have HF7 : Hid (LF F6 w7 g0 ao a ∧ LF F6 w7 g1 bo b ∧ LF F6 w7 rg ro x) := ⟨HF6.out.1.touch hT7, HF6.out.2.touch hT7, hrl⟩
    have HL7 : Hid (Live w1 w7 d F6 (one [102] (x, min y c') 1048576)) := h
    have HLf : Hid (Lies w7 g0 ao lf) := by rw [HLQ.out]; exact HF7.out.1.lies.take c'
    clear h hT7 HF6 H hrl
    go_wp2_with (first | (at_builtin; refine wpList_append_bytes _ rfl _ _ rfl _ [] rfl (World.ownsRow_nil _ _ _ _) g0 ao c' c0 lf rfl HLT.out.symm HN0.out HLf.out (by have := HLT.out; simp; omega) ?_))
    intro v1 w8 hg1
    try rw [List.nil_append] at hg1
    have HG1 : Hid (Grow (.slice none 0 0) v1 lf w7 w8) := hg1
    have HT8 : Hid (Touch (fun _ => False) w7 w8) := hg1.touch.mono fun k _ e => by simp [Value.ownBlock] at e
    have HB8 : Hid (Lies w8 g1 bo b) := (HF7.out.2.1.touch HT8.out).lies
    obtain ⟨vo1, vc1, vg1, hv1, _⟩ := lies_of_owned hg1.is
    have HO1 : Hid (w8.ownsRow 0 5 1 v1 lf.length (cellsOf lf)) := hg1.is
    subst hv1
    clear hg1 HLf
    go_wp2_with (first | (at_builtin; refine wpList_append_bytes _ rfl _ _ rfl _ lf rfl HO1.out g1 bo b.length c1 b rfl rfl HN1.out HB8.out (by have := HLT.out; omega) ?_))
    intro v2 w9 hg2
    rw [← HXQ.out] at hg2
    have hG2 := HG1.out.trans hg2
    have HT9 : Hid (Touch (fun _ => False) w7 w9) := hG2.touch.mono fun k _ e => by simp [Value.ownBlock] at e
    obtain ⟨vo2, vc2, vg2, hv2, hvL, _⟩ := lies_of_owned hG2.is
    subst hv2
    have HBy : Hid (Calls Try.prog 11 #[.slice ro x.length rc, .slice vo2 x.length vc2] w9 fun e w' => e = .returned (.bool true) ∧ w' = w9) := by
      have := help_bytes rg vg2 ro vo2 x x x.length x.length rc vc2 rfl rfl w9 (HF7.out.2.2.touch HT9.out).lies hvL
      rw [show (x == x) = true from by simp] at this
      exact this
    have h9 := HL7.out.touch HT9.out
    have HL9 : Hid (Live w1 w9 d F6 (one [102] (x, min y c') 1048576)) := h9
    have HF9 : Hid (LF F6 w9 g0 ao a ∧ LF F6 w9 g1 bo b) := ⟨HF7.out.1.touch HT9.out, HF7.out.2.1.touch HT9.out⟩
    clear hg2 hG2 hvL h9 HF7 HL7 HG1 HO1 HB8 HT8 HT9
    go_wp2_with fail
    refine HBy.out.mono ?_
    rintro e wa ⟨rfl, hw⟩
    rw [hw]; clear hw HBy
    have HX := HU.out _ _ _ _ HL9.out
    have H : Hid (Calls Try.prog _ _ w9 _) := HX
    clear HX
    go_wp2_with fail
    refine H.out.mono ?_
    rintro e wa ⟨rfl, hw⟩
    rw [hw]; clear hw H
    have HX := HC.out _ _ _ _ HL9.out
    have H : Hid (Calls Try.prog _ _ w9 _) := HX
    clear HX HU HC
    go_wp2_with fail
    refine H.out.mono ?_
    rintro e wa ⟨rfl, Fa, h, hS⟩
    have HFa : Hid (LF Fa wa g0 ao a ∧ LF Fa wa g1 bo b) := ⟨HF9.out.1.step hS, HF9.out.2.step hS⟩
    clear hS H HF9 HL9
    have HX := HR.out _ _ _ _ _ _ h
    have H : Hid (Calls Try.prog _ _ wa _) := HX
    clear h HX HR
    go_wp2_with fail
    refine H.out.mono ?_
    rintro e wb ⟨⟨so, sc, sg, rfl, hrl⟩, h, hTb⟩
    have HZ : Hid (Touch (fun _ => False) w wb) := HT1.out.trans h.since
    have HBz : Hid (Calls Try.prog 11 #[.slice so z.length sc, .slice none 0 0] wb fun e w' => e = .returned (.bool true) ∧ w' = wb) := by
      have hL2 : Lies wb g0 none z := .inl HZL.out
      have := help_bytes sg g0 so none z z z.length 0 sc 0 rfl (by rw [HZL.out]; rfl) wb hrl.lies hL2
      rw [show (z == z) = true from by simp] at this
      exact this
    clear h hTb hrl HFa H
    go_wp2_with fail
    refine HBz.out.mono ?_
    rintro e wc ⟨rfl, hw⟩
    rw [hw]; clear hw HBz
    go_wp2_with fail
    go_ret
    exact ⟨rfl, HZ.out⟩
end Go.Proofs.Ytahikcjgnnmnbab
