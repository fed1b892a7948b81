/- quirelaw4.DiskApart returns true. -/
import Derived.Test.YtfeojfcnphjbdaaKnown4
import Derived.Test.YtfeojfcnphjbdaaPlayD
import Derived.Test.YtfeojfcnphjbdaaCrew
import Derived.Test.YtfeojfcnphjbdaaBothD
namespace Go.Proofs.Ytfeojfcnphjbdaa
open Go.RowKit Go.Maps Go.Sort
set_option linter.unusedVariables false

set_option maxRecDepth 100000 in
set_option maxHeartbeats 3200000 in
theorem diskApart_any (w : World) (r : Int) (hr : -9223372036854775808 ≤ r ∧ r ≤ 9223372036854775807) (ao : Option Addr) (l : List StepV) (n0 c0 : Nat) (hn0 : n0 = l.length) (hS : Steps w ao l) (hlen : l.length ≤ 140737488355328) (bo : Option Addr) (l2 : List StepV) (n1 c1 : Nat) (hn1 : n1 = l2.length) (hS2 : Steps w bo l2) (hlen2 : l2.length ≤ 140737488355328) :
    Calls Try.prog 5 #[.int .i64 r, .slice ao n0 c0, .slice bo n1 c1] w fun e w' => e = .returned (.bool true) ∧ Touch (fun _ => False) w w' := by
  subst hn0 hn1
  have HK : Hid (Calls Try.prog 7 #[] w fun e w' => e = .returned (.bool true) ∧ Touch (fun _ => False) w w') := known_any w
  have HSt : Hid (∀ W, Touch (fun _ => False) w W → Steps W ao l ∧ Steps W bo l2) := fun W t => ⟨hS.touch t, hS2.touch t⟩
  have HLi : Hid (∀ W, Touch (fun _ => False) w W → Calls Try.prog 8 #[.slice ao l.length c0] W fun e w' => e = .returned (.bool (isLight l)) ∧ Touch (fun _ => False) W w') := fun W t => light_any W ao l l.length c0 rfl (HSt.out W t).1 hlen
  have HLj : Hid (∀ W, Touch (fun _ => False) w W → Calls Try.prog 8 #[.slice bo l2.length c1] W fun e w' => e = .returned (.bool (isLight l2)) ∧ Touch (fun _ => False) W w') := fun W t => light_any W bo l2 l2.length c1 rfl (HSt.out W t).2 hlen2
  clear hS hS2
  cases hli : isLight l with
  | false =>
    rw [hli] at HLi
    go_enter Try.func5, Try.ntmps5
    go_wp2_with fail
    refine HK.out.mono ?_
    rintro e w1 ⟨rfl, hT1⟩
    have HT1 : Hid (Touch (fun _ => False) w w1) := hT1
    clear hT1 HK
    go_wp2_with fail
    refine (HLi.out w1 HT1.out).mono ?_
    rintro e w2 ⟨rfl, hT2⟩
    have HT2 : Hid (Touch (fun _ => False) w w2) := HT1.out.trans hT2
    clear hT2 HLi
    go_wp2_with fail
    go_ret
    exact ⟨rfl, HT2.out⟩
  | true =>
  cases hlj : isLight l2 with
  | false =>
    rw [hli] at HLi
    rw [hlj] at HLj
    go_enter Try.func5, Try.ntmps5
    go_wp2_with fail
    refine HK.out.mono ?_
    rintro e w1 ⟨rfl, hT1⟩
    have HT1 : Hid (Touch (fun _ => False) w w1) := hT1
    clear hT1 HK
    go_wp2_with fail
    refine (HLi.out w1 HT1.out).mono ?_
    rintro e w2 ⟨rfl, hT2⟩
    have HT2 : Hid (Touch (fun _ => False) w w2) := HT1.out.trans hT2
    clear hT2 HLi
    go_wp2_with fail
    refine (HLj.out w2 HT2.out).mono ?_
    rintro e w3 ⟨rfl, hT3⟩
    have HT3 : Hid (Touch (fun _ => False) w w3) := HT2.out.trans hT3
    clear hT3 HLj
    go_wp2_with fail
    go_ret
    exact ⟨rfl, HT3.out⟩
  | true =>
    rw [hli] at HLi
    rw [hlj] at HLj
    have hl3 : l.length ≤ 300 := by unfold isLight at hli; simp at hli; exact hli.1
    have hl4 : l2.length ≤ 300 := by unfold isLight at hlj; simp at hlj; exact hlj.1
    have HN : Hid (∀ W, Calls Try.prog 9 #[.int .i64 r] W fun e w' => ∃ d F, e = .returned (dp d) ∧ Live W w' d F (newSt r)) := fun W => lNew r hr W
    obtain ⟨s1, hs1⟩ : ∃ s1, s1 = pEnd (newSt r) l := ⟨_, rfl⟩
    have hz1 : s1.fs.length ≤ 300 := by
      have := pEnd_len l (newSt r)
      rw [hs1]; simp only [newSt, List.length_nil] at this ⊢; omega
    obtain ⟨s2, hs2⟩ : ∃ s2, s2 = pEnd s1 l2 := ⟨_, rfl⟩
    have hz2 : s2.fs.length ≤ 600 := by
      have := pEnd_len l2 s1
      rw [hs2]; omega
    have HP1 : Hid (∀ W0 W d F, Live W0 W d F (newSt r) → Steps W0 ao l → Calls Try.prog 35 #[dp d, .slice ao l.length c0] W fun e w' => e = .returned (.int .i64 (pCnt (newSt r) l : Int)) ∧ LPost W0 d F s1 W w') := by
      intro W0 W d F h hS
      rw [hs1]
      exact play_any h ao l l.length c0 rfl hS (by simp only [newSt, List.length_nil]; omega)
    have HP2 : Hid (∀ W0 W d F, Live W0 W d F s1 → Steps W0 bo l2 → Calls Try.prog 35 #[dp d, .slice bo l2.length c1] W fun e w' => e = .returned (.int .i64 (pCnt s1 l2 : Int)) ∧ LPost W0 d F s2 W w') := by
      intro W0 W d F h hS
      rw [hs2]
      exact play_any h bo l2 l2.length c1 rfl hS (by omega)
    clear hs1 hs2 hli hlj hl3 hl4 hlen hlen2 hr
    generalize (pCnt (newSt r) l : Int) = p1 at *
    generalize (pCnt s1 l2 : Int) = p2 at *
    generalize newSt r = s0 at *
    go_enter Try.func5, Try.ntmps5
    go_wp2_with fail
    refine HK.out.mono ?_
    rintro e w1 ⟨rfl, hT1⟩
    have HT1 : Hid (Touch (fun _ => False) w w1) := hT1
    clear hT1 HK
    go_wp2_with fail
    refine (HLi.out w1 HT1.out).mono ?_
    rintro e w2 ⟨rfl, hT2⟩
    have HT2 : Hid (Touch (fun _ => False) w w2) := HT1.out.trans hT2
    clear hT2 HLi HT1
    go_wp2_with fail
    refine (HLj.out w2 HT2.out).mono ?_
    rintro e w3 ⟨rfl, hT3⟩
    have HT3 : Hid (Touch (fun _ => False) w w3) := HT2.out.trans hT3
    have HS3 : Hid (Steps w3 ao l ∧ Steps w3 bo l2) := HSt.out _ HT3.out
    clear hT3 HLj HT2 HSt
    go_wp2_with fail
    refine (HN.out w3).mono ?_
    rintro e w4 ⟨a, Fa, rfl, ha⟩
    have H4 : Hid (Crew w3 w4 [(a, Fa, s0)]) := (Crew.nil w3).add (Touch.refl _ _) ha
    clear ha
    go_wp2_with fail
    refine (HN.out w4).mono ?_
    rintro e w5 ⟨b, Fb, rfl, hb⟩
    have H5 : Hid (Crew w3 w5 [(b, Fb, s0), (a, Fa, s0)]) := H4.out.add (H4.out.live (a, Fa, s0) (by simp)).since hb
    clear hb H4
    go_wp2_with fail
    refine (HN.out w5).mono ?_
    rintro e w6 ⟨d, Fd, rfl, hd⟩
    have H6 : Hid (Crew w3 w6 [(a, Fa, s0), (d, Fd, s0), (b, Fb, s0)]) := (H5.out.add (H5.out.live (a, Fa, s0) (by simp)).since hd).rot
    clear hd H5 HN
    have HX := HP1.out _ _ _ _ (H6.out.live (a, Fa, s0) (by simp)) HS3.out.1
    have H : Hid (Calls Try.prog _ #[dp a, _] w6 _) := HX
    clear HX
    go_wp2_with fail
    refine H.out.mono ?_
    rintro e w7 ⟨rfl, hP⟩
    obtain ⟨Fa7, hC⟩ := H6.out.step hP
    have H7 : Hid (Crew w3 w7 [(b, Fb, s0), (a, Fa7, s1), (d, Fd, s0)]) := hC.rot
    clear hP hC H H6
    have HX := HP1.out _ _ _ _ (H7.out.live (b, Fb, s0) (by simp)) HS3.out.1
    have H : Hid (Calls Try.prog _ #[dp b, _] w7 _) := HX
    clear HX
    go_wp2_with fail
    refine H.out.mono ?_
    rintro e w8 ⟨rfl, hP⟩
    obtain ⟨Fb8, hC⟩ := H7.out.step hP
    have H8 : Hid (Crew w3 w8 [(d, Fd, s0), (b, Fb8, s1), (a, Fa7, s1)]) := hC.rot
    clear hP hC H H7
    have HX := HP1.out _ _ _ _ (H8.out.live (d, Fd, s0) (by simp)) HS3.out.1
    have H : Hid (Calls Try.prog _ #[dp d, _] w8 _) := HX
    clear HX HP1
    go_wp2_with fail
    refine H.out.mono ?_
    rintro e w9 ⟨rfl, hP⟩
    obtain ⟨Fd9, hC⟩ := H8.out.step hP
    have H9 : Hid (Crew w3 w9 [(d, Fd9, s1), (b, Fb8, s1), (a, Fa7, s1)]) := hC
    clear hP hC H H8
    go_wp2_with fail
    refine (lCopy (H9.out.live (a, Fa7, s1) (by simp)) (by simp only; omega)).mono ?_
    rintro e w10 ⟨c, Fc, rfl, hc⟩
    have H10 : Hid (Crew w3 w10 [(c, Fc, s1), (d, Fd9, s1), (b, Fb8, s1), (a, Fa7, s1)]) := H9.out.add (H9.out.live (a, Fa7, s1) (by simp)).since hc
    clear hc H9
    have HX := HP2.out _ _ _ _ (H10.out.live (c, Fc, s1) (by simp)) HS3.out.2
    have H : Hid (Calls Try.prog _ #[dp c, _] w10 _) := HX
    clear HX
    go_wp2_with fail
    refine H.out.mono ?_
    rintro e w11 ⟨rfl, hP⟩
    obtain ⟨Fc11, hC⟩ := H10.out.step hP
    have H11 : Hid (Crew w3 w11 [(b, Fb8, s1), (c, Fc11, s2), (d, Fd9, s1), (a, Fa7, s1)]) := hC.rot
    clear hP hC H H10
    have HX := HP2.out _ _ _ _ (H11.out.live (b, Fb8, s1) (by simp)) HS3.out.2
    have H : Hid (Calls Try.prog _ #[dp b, _] w11 _) := HX
    clear HX HP2
    go_wp2_with fail
    refine H.out.mono ?_
    rintro e w12 ⟨rfl, hP⟩
    obtain ⟨Fb12, hC⟩ := H11.out.step hP
    have H12 : Hid (Crew w3 w12 [(b, Fb12, s2), (c, Fc11, s2), (d, Fd9, s1), (a, Fa7, s1)]) := hC
    clear hP hC H H11
    go_wp2_with fail
    refine (both_any (H12.out.live (c, Fc11, s2) (by simp)) (H12.out.live (b, Fb12, s2) (by simp)) (by simp only; omega)).mono ?_
    rintro e w13 ⟨rfl, hT⟩
    have H13 : Hid (Crew w3 w13 [(b, Fb12, s2), (c, Fc11, s2), (d, Fd9, s1), (a, Fa7, s1)]) := H12.out.touch hT
    clear hT H12
    go_wp2_with fail
    refine (both_any (H13.out.live (a, Fa7, s1) (by simp)) (H13.out.live (d, Fd9, s1) (by simp)) (by simp only; omega)).mono ?_
    rintro e w14 ⟨rfl, hT⟩
    have HZ : Hid (Touch (fun _ => False) w w14) := (HT3.out.trans (H13.out.live (a, Fa7, s1) (by simp)).since).trans hT
    clear hT H13
    go_wp2_with fail
    go_ret
    exact ⟨rfl, HZ.out⟩
end Go.Proofs.Ytfeojfcnphjbdaa
