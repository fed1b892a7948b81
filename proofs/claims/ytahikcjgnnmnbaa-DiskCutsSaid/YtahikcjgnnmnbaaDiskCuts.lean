/- quirelaw4.DiskCuts returns true. -/
import Derived.Test.YtahikcjgnnmnbaaKnown4
import Derived.Test.YtahikcjgnnmnbaaPlayD
import Derived.Test.YtahikcjgnnmnbaaCutM
namespace Go.Proofs.Ytahikcjgnnmnbaa
open Go.RowKit Go.Maps Go.Sort
set_option linter.unusedVariables false

set_option maxRecDepth 100000 in
set_option maxHeartbeats 3200000 in
theorem diskCuts_any (w : World) (ao : Option Addr) (l : List StepV) (n0 c0 : Nat) (hn0 : n0 = l.length) (hS : Steps w ao l) (hlen : l.length ≤ 140737488355328) (n : Int) (hn : -9223372036854775808 ≤ n ∧ n ≤ 9223372036854775807) :
    Calls Try.prog 4 #[.slice ao n0 c0, .int .i64 n] w fun e w' => e = .returned (.bool true) ∧ Touch (fun _ => False) w w' := by
  subst hn0
  have HK : Hid (Calls Try.prog 9 #[] w fun e w' => e = .returned (.bool true) ∧ Touch (fun _ => False) w w') := known_any w
  have HSt : Hid (∀ W, Touch (fun _ => False) w W → Steps W ao l) := by
    intro W t
    refine ⟨fun x hx => ?_, fun i hi => ?_⟩
    · have h := hS.ok x hx
      exact ⟨h.what, h.n, h.name, h.tgt, h.bl.keep fun e => t.block _ (h.bl.lt e) id, h.bno, h.blen, h.kl.keep fun e => t.block _ (h.kl.lt e) id, h.klen, h.kin⟩
    · obtain ⟨g, off, e, hA⟩ := hS.cells i hi
      exact ⟨g, off, e, hA.touch t⟩
  have HLi : Hid (∀ W, Touch (fun _ => False) w W → Calls Try.prog 10 #[.slice ao l.length c0] W fun e w' => e = .returned (.bool (isLight l)) ∧ Touch (fun _ => False) W w') := fun W t => light_any W ao l l.length c0 rfl (HSt.out W t) hlen
  clear hS
  cases hli : isLight l with
  | false =>
    rw [hli] at HLi
    go_enter Try.func4, Try.ntmps4
    go_wp2_with fail
    refine HK.out.mono ?_
    rintro e w1 ⟨rfl, hT1⟩
    have HT1 : Hid (Touch (fun _ => False) w w1) := hT1
    clear hT1 HK
    go_wp2_with fail
    refine (HLi.out w1 HT1.out).mono ?_
    rintro e w2 ⟨rfl, hT2⟩
    have HT2 : Hid (Touch (fun _ => False) w w2) := HT1.out.trans hT2
    clear hT2 HLi
    go_wp2_with fail
    go_ret
    exact ⟨rfl, HT2.out⟩
  | true =>
    rw [hli] at HLi
    have hl3 : l.length ≤ 300 := by unfold isLight at hli; simp at hli; exact hli.1
    obtain ⟨c, hc, hpl⟩ := place_nat n 400 (by decide)
    have HPl : Hid (∀ W, Calls Try.prog 38 #[.int .i64 n, .int .i64 400] W fun e w' => e = .returned (.int .i64 (c : Int)) ∧ w' = W) := by
      intro W
      have := place_any n ((400 : Nat) : Int) hn (by decide) W
      rw [hpl] at this
      exact this
    obtain ⟨A, hA⟩ : ∃ A, A = pCnt (newSt 65536) l := ⟨_, rfl⟩
    have hAl : A ≤ 300 := by rw [hA]; exact Nat.le_trans (pCnt_le l _) hl3
    have hns : newSt 65536 = St.mk [] 65536 (-1) := rfl
    obtain ⟨q1, fs2, q2, q3⟩ := cut_run 65536 l [] c
    rw [← hns, ← hA] at q1 q2 q3
    have hcut : mCut (newSt 65536) (c : Int) = St.mk [] 65536 (c : Int) := rfl
    have HN : Hid (∀ W, Calls Try.prog 11 #[.int .i64 65536] W fun e w' => ∃ d F, e = .returned (dp d) ∧ Live W w' d F (newSt 65536)) := fun W => lNew 65536 (by decide) W
    have HPa : Hid (∀ W0 W d F, Live W0 W d F (newSt 65536) → Steps W0 ao l → Calls Try.prog 37 #[dp d, .slice ao l.length c0] W fun e w' => e = .returned (.int .i64 (A : Int)) ∧ LPost W0 d F (pEnd (newSt 65536) l) W w') := by
      intro W0 W d F h hS
      rw [hA]
      exact play_any h ao l l.length c0 rfl hS (by simp only [hns, List.length_nil]; omega)
    have HCu : Hid (∀ W0 W d F, Live W0 W d F (newSt 65536) → Calls Try.prog 30 #[dp d, .int .i64 (c : Int)] W fun e w' => e = .returned (.tuple #[]) ∧ LPost W0 d F (St.mk [] 65536 (c : Int)) W w') := by
      intro W0 W d F h
      rw [← hcut]
      exact lCut h (c : Int) (by omega)
    obtain ⟨m, hm⟩ : ∃ m, m = min A c := ⟨_, rfl⟩
    rw [← hm] at q1 q2
    have HPb : Hid (∀ W0 W d F, Live W0 W d F (St.mk [] 65536 (c : Int)) → Steps W0 ao l → Calls Try.prog 37 #[dp d, .slice ao l.length c0] W fun e w' => e = .returned (.int .i64 (m : Int)) ∧ LPost W0 d F (St.mk fs2 65536 ((c - m : Nat) : Int)) W w') := by
      intro W0 W d F h hS
      have := play_any h ao l l.length c0 rfl hS (by simp only [List.length_nil]; omega)
      rw [q1, q2] at this
      exact this
    have hfl : fs2.length ≤ 1073741823 := by
      have := pEnd_len l (St.mk [] 65536 (c : Int))
      rw [q2] at this
      simp only [List.length_nil] at this; omega
    have HDe : Hid (∀ W0 W d F, Live W0 W d F (St.mk fs2 65536 ((c - m : Nat) : Int)) → Calls Try.prog 39 #[dp d] W fun e w' => e = .returned (.bool (decide (c ≤ A))) ∧ w' = W) := by
      intro W0 W d F h
      have := lDead h
      have e : decide ((St.mk fs2 65536 ((c - m : Nat) : Int)).power = 0) = decide (c ≤ A) := by
        simp only [decide_eq_decide]; omega
      rw [e] at this
      exact this
    have hmin : min (A : Int) (c : Int) = (m : Int) := by omega
    by_cases hdead : c ≤ A
    · have HP0 : Hid (St.mk fs2 65536 ((c - m : Nat) : Int) = St.mk fs2 65536 0) := by
        have : c - m = 0 := by omega
        rw [Hid, this]; rfl
      have hdi : (c : Int) ≤ (A : Int) := by omega
      clear q1 q2 q3 hcut hns hA hpl hm
      go_enter Try.func4, Try.ntmps4
      go_wp2_with fail
      refine HK.out.mono ?_
      rintro e w1 ⟨rfl, hT1⟩
      have HT1 : Hid (Touch (fun _ => False) w w1) := hT1
      clear hT1 HK
      go_wp2_with fail
      refine (HLi.out w1 HT1.out).mono ?_
      rintro e w2 ⟨rfl, hT2⟩
      have HT2 : Hid (Touch (fun _ => False) w w2) := HT1.out.trans hT2
      have HS2 : Hid (Steps w2 ao l) := HSt.out w2 HT2.out
      clear hT2 HLi HT1 HSt
      go_wp2_with fail
      refine (HN.out w2).mono ?_
      rintro e w3 ⟨a, Fa, rfl, ha⟩
      have HA3 : Hid (Live w2 w3 a Fa (newSt 65536)) := ha
      clear ha
      go_wp2_with fail
      refine (HN.out w3).mono ?_
      rintro e w4 ⟨b, Fb, rfl, hb⟩
      have HAB : Hid (Live w2 w4 a Fa (newSt 65536) ∧ Live w2 w4 b Fb (newSt 65536) ∧ ∀ k, Fa k → ¬ Fb k) :=
        ⟨HA3.out.touch hb.since, hb.weaken HA3.out.since, fun k hx hy => Nat.lt_irrefl k (Nat.lt_of_lt_of_le (HA3.out.disk.lt hx) (hb.new k hy))⟩
      clear hb HA3 HN
      have HX := HPa.out _ _ _ _ HAB.out.1 HS2.out
      have H : Hid (Calls Try.prog _ _ w4 _) := HX
      clear HX HPa
      go_wp2_with fail
      refine H.out.mono ?_
      rintro e w5 ⟨rfl, Fa5, ha, hs⟩
      have hob := HAB.out.2.1.other hs HAB.out.1.new HAB.out.2.2
      have HAB5 : Hid (Live w2 w5 a Fa5 (pEnd (newSt 65536) l) ∧ Live w2 w5 b Fb (newSt 65536) ∧ ∀ k, Fa5 k → ¬ Fb k) := ⟨ha, hob.1, hob.2⟩
      clear ha hs hob HAB H
      go_wp2_with fail
      refine (HPl.out _).mono ?_
      rintro e w6 ⟨rfl, hw⟩
      rw [hw]; clear hw HPl
      have HX := HCu.out _ _ _ _ HAB5.out.2.1
      have H : Hid (Calls Try.prog _ _ w5 _) := HX
      clear HX HCu
      go_wp2_with fail
      refine H.out.mono ?_
      rintro e w6 ⟨rfl, Fb6, hb, hs⟩
      have hob := HAB5.out.1.other hs HAB5.out.2.1.new (fun k hx hy => HAB5.out.2.2 k hy hx)
      have HAB6 : Hid (Live w2 w6 a Fa5 (pEnd (newSt 65536) l) ∧ Live w2 w6 b Fb6 (St.mk [] 65536 (c : Int)) ∧ ∀ k, Fa5 k → ¬ Fb6 k) := ⟨hob.1, hb, fun k hx hy => hob.2 k hy hx⟩
      clear hb hs hob HAB5 H
      have HX := HPb.out _ _ _ _ HAB6.out.2.1 HS2.out
      have H : Hid (Calls Try.prog _ _ w6 _) := HX
      clear HX HPb
      go_wp2_with fail
      refine H.out.mono ?_
      rintro e w7 ⟨rfl, Fb7, hb, hs⟩
      have hob := HAB6.out.1.other hs HAB6.out.2.1.new (fun k hx hy => HAB6.out.2.2 k hy hx)
      have HAB7 : Hid (Live w2 w7 a Fa5 (pEnd (newSt 65536) l) ∧ Live w2 w7 b Fb7 (St.mk fs2 65536 ((c - m : Nat) : Int))) := ⟨hob.1, hb⟩
      have HZ : Hid (Touch (fun _ => False) w w7) := HT2.out.trans hb.since
      clear hb hs hob HAB6 H
      have HX := HDe.out _ _ _ _ HAB7.out.2
      have HD7 : Hid (Calls Try.prog 39 #[dp b] w7 fun e w' => e = .returned (.bool true) ∧ w' = w7) := by rw [show true = decide (c ≤ A) from by simp [hdead]]; exact HX
      clear HX HDe
      go_wp2_with fail
      refine HD7.out.mono ?_
      rintro e w8 ⟨rfl, hw⟩
      rw [hw]; clear hw
      go_wp2_with fail
      refine HD7.out.mono ?_
      rintro e w8 ⟨rfl, hw⟩
      rw [hw]; clear hw
      have hL7 := HAB7.out.2
      rw [HP0.out] at hL7
      have H : Hid (Calls Try.prog 25 #[dp b, .string ⟨#[97]⟩] w7 fun e w' => (∃ ro rc, e = .returned (.tuple #[.slice ro 0 rc, .int .i64 43])) ∧ Live w2 w' b Fb7 (St.mk fs2 65536 0)) := by
        refine (lRead hL7 hfl ⟨#[97]⟩ (by decide)).mono ?_
        rintro e w' ⟨⟨v, rfl, hrow⟩, h2, t⟩
        have e1 : mRead (St.mk fs2 65536 0) (⟨#[97]⟩ : ByteArray).data.toList = [] := by simp [mRead, St.err]
        have e2 : (St.mk fs2 65536 0).err (⟨#[97]⟩ : ByteArray).data.toList = 43 := by simp [St.err]
        rw [e1] at hrow
        rw [e2]
        obtain ⟨ro, rc, rg, rfl, _⟩ := hL7.read t.size hrow
        exact ⟨⟨ro, rc, rfl⟩, h2⟩
      clear hL7 HAB7 HD7
      go_wp2_with fail
      refine H.out.mono ?_
      rintro e w8 ⟨⟨ro, rc, rfl⟩, h8⟩
      have H8 : Hid (Calls Try.prog 41 #[dp b] w8 fun e w' => (∃ vo vc, e = .returned (.slice vo 0 vc)) ∧ Live w2 w' b Fb7 (St.mk fs2 65536 0)) := by
        refine (lList h8 hfl).mono ?_
        rintro e w' ⟨⟨v, rfl, hrow, _⟩, h2⟩
        have e1 : mList (St.mk fs2 65536 0) = [] := by simp [mList]
        rw [e1] at hrow
        rcases hrow.2 with ⟨e, _⟩ | ⟨gl, cl, cur, e, _⟩
        · exact ⟨⟨_, _, by rw [e]⟩, h2⟩
        · exact ⟨⟨_, _, by rw [e]; rfl⟩, h2⟩
      clear h8 H HZ
      go_wp2_with fail
      refine H8.out.mono ?_
      rintro e w9 ⟨⟨vo, vc, rfl⟩, h9⟩
      have H9 : Hid (Calls Try.prog 14 #[dp b, .string ⟨#[97]⟩, .slice none 0 0] w9 fun e w' => e = .returned (.int .i64 43) ∧ LPost w2 b Fb7 (St.mk fs2 65536 0) w9 w') := by
        have := lAppend h9 hfl ⟨#[97]⟩ (by decide) 0 none [] 0 0 rfl (fun _ => rfl) (.inl rfl) (by decide)
        have e1 : appE (St.mk fs2 65536 0) (⟨#[97]⟩ : ByteArray).data.toList [] = 43 := by simp [appE]
        have e2 : mAppend (St.mk fs2 65536 0) (⟨#[97]⟩ : ByteArray).data.toList [] = St.mk fs2 65536 0 := by simp [mAppend, appE]
        rw [e1, e2] at this
        exact this
      clear h9 H8
      go_wp2_with fail
      refine H9.out.mono ?_
      rintro e wa ⟨rfl, Fa', ha, _⟩
      have Ha : Hid (Calls Try.prog 21 #[dp b, .string ⟨#[97]⟩, .int .i64 0] wa fun e w' => e = .returned (.int .i64 43) ∧ Touch (fun _ => False) w2 w') := by
        refine (lTrunc ha hfl ⟨#[97]⟩ (by decide) 0 (by decide)).mono ?_
        rintro e w' ⟨he, F', hl, _⟩
        have e2 : (St.mk fs2 65536 0).err (⟨#[97]⟩ : ByteArray).data.toList = 43 := by simp [St.err]
        rw [e2] at he
        exact ⟨he, hl.since⟩
      clear ha H9
      go_wp2_with fail
      refine Ha.out.mono ?_
      rintro e wb ⟨rfl, ht⟩
      have HZ : Hid (Touch (fun _ => False) w wb) := HT2.out.trans ht
      clear ht Ha
      go_wp2_with fail
      go_ret
      exact ⟨rfl, HZ.out⟩
    · obtain ⟨U, hU⟩ : ∃ U, U = (St.mk fs2 65536 (-1)).used := ⟨_, rfl⟩
      have HUa : Hid ((pEnd (newSt 65536) l).used = U) := by rw [Hid, q3 (by omega), hU]
      have HUb : Hid ((St.mk fs2 65536 ((c - m : Nat) : Int)).used = U) := by rw [Hid, hU]; rfl
      have hdi : decide ((c : Int) ≤ (A : Int)) = false := by simp; omega
      clear q1 q2 q3 hcut hns hA hpl hm hU
      go_enter Try.func4, Try.ntmps4
      go_wp2_with fail
      refine HK.out.mono ?_
      rintro e w1 ⟨rfl, hT1⟩
      have HT1 : Hid (Touch (fun _ => False) w w1) := hT1
      clear hT1 HK
      go_wp2_with fail
      refine (HLi.out w1 HT1.out).mono ?_
      rintro e w2 ⟨rfl, hT2⟩
      have HT2 : Hid (Touch (fun _ => False) w w2) := HT1.out.trans hT2
      have HS2 : Hid (Steps w2 ao l) := HSt.out w2 HT2.out
      clear hT2 HLi HT1 HSt
      go_wp2_with fail
      refine (HN.out w2).mono ?_
      rintro e w3 ⟨a, Fa, rfl, ha⟩
      have HA3 : Hid (Live w2 w3 a Fa (newSt 65536)) := ha
      clear ha
      go_wp2_with fail
      refine (HN.out w3).mono ?_
      rintro e w4 ⟨b, Fb, rfl, hb⟩
      have HAB : Hid (Live w2 w4 a Fa (newSt 65536) ∧ Live w2 w4 b Fb (newSt 65536) ∧ ∀ k, Fa k → ¬ Fb k) :=
        ⟨HA3.out.touch hb.since, hb.weaken HA3.out.since, fun k hx hy => Nat.lt_irrefl k (Nat.lt_of_lt_of_le (HA3.out.disk.lt hx) (hb.new k hy))⟩
      clear hb HA3 HN
      have HX := HPa.out _ _ _ _ HAB.out.1 HS2.out
      have H : Hid (Calls Try.prog _ _ w4 _) := HX
      clear HX HPa
      go_wp2_with fail
      refine H.out.mono ?_
      rintro e w5 ⟨rfl, Fa5, ha, hs⟩
      have hob := HAB.out.2.1.other hs HAB.out.1.new HAB.out.2.2
      have HAB5 : Hid (Live w2 w5 a Fa5 (pEnd (newSt 65536) l) ∧ Live w2 w5 b Fb (newSt 65536) ∧ ∀ k, Fa5 k → ¬ Fb k) := ⟨ha, hob.1, hob.2⟩
      clear ha hs hob HAB H
      go_wp2_with fail
      refine (HPl.out _).mono ?_
      rintro e w6 ⟨rfl, hw⟩
      rw [hw]; clear hw HPl
      have HX := HCu.out _ _ _ _ HAB5.out.2.1
      have H : Hid (Calls Try.prog _ _ w5 _) := HX
      clear HX HCu
      go_wp2_with fail
      refine H.out.mono ?_
      rintro e w6 ⟨rfl, Fb6, hb, hs⟩
      have hob := HAB5.out.1.other hs HAB5.out.2.1.new (fun k hx hy => HAB5.out.2.2 k hy hx)
      have HAB6 : Hid (Live w2 w6 a Fa5 (pEnd (newSt 65536) l) ∧ Live w2 w6 b Fb6 (St.mk [] 65536 (c : Int)) ∧ ∀ k, Fa5 k → ¬ Fb6 k) := ⟨hob.1, hb, fun k hx hy => hob.2 k hy hx⟩
      clear hb hs hob HAB5 H
      have HX := HPb.out _ _ _ _ HAB6.out.2.1 HS2.out
      have H : Hid (Calls Try.prog _ _ w6 _) := HX
      clear HX HPb
      go_wp2_with fail
      refine H.out.mono ?_
      rintro e w7 ⟨rfl, Fb7, hb, hs⟩
      have hob := HAB6.out.1.other hs HAB6.out.2.1.new (fun k hx hy => HAB6.out.2.2 k hy hx)
      have HAB7 : Hid (Live w2 w7 a Fa5 (pEnd (newSt 65536) l) ∧ Live w2 w7 b Fb7 (St.mk fs2 65536 ((c - m : Nat) : Int))) := ⟨hob.1, hb⟩
      have HZ : Hid (Touch (fun _ => False) w w7) := HT2.out.trans hb.since
      clear hb hs hob HAB6 H
      have HX := HDe.out _ _ _ _ HAB7.out.2
      have HD7 : Hid (Calls Try.prog 39 #[dp b] w7 fun e w' => e = .returned (.bool false) ∧ w' = w7) := by rw [show false = decide (c ≤ A) from by simp [hdead]]; exact HX
      clear HX HDe
      go_wp2_with fail
      refine HD7.out.mono ?_
      rintro e w8 ⟨rfl, hw⟩
      rw [hw]; clear hw
      go_wp2_with fail
      refine HD7.out.mono ?_
      rintro e w8 ⟨rfl, hw⟩
      rw [hw]; clear hw
      have HX := lUsed HAB7.out.1
      have HU1 : Hid (Calls Try.prog 40 #[dp a] w7 fun e w' => e = .returned (.int .i64 (U : Int)) ∧ w' = w7) := by rw [HUa.out] at HX; exact HX
      clear HX
      have HX := lUsed HAB7.out.2
      have HU2 : Hid (Calls Try.prog 40 #[dp b] w7 fun e w' => e = .returned (.int .i64 (U : Int)) ∧ w' = w7) := by rw [HUb.out] at HX; exact HX
      clear HX
      go_wp2_with fail
      refine HU1.out.mono ?_
      rintro e w8 ⟨rfl, hw⟩
      rw [hw]; clear hw
      go_wp2_with fail
      refine HU2.out.mono ?_
      rintro e w8 ⟨rfl, hw⟩
      rw [hw]; clear hw
      go_wp2_with fail
      go_ret
      exact ⟨by simp, HZ.out⟩
end Go.Proofs.Ytahikcjgnnmnbaa
