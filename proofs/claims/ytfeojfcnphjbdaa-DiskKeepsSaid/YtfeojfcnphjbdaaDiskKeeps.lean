/- quirelaw4.DiskKeeps returns true. -/
import Derived.Test.YtfeojfcnphjbdaaKnown4
import Derived.Test.YtfeojfcnphjbdaaPlayD
import Derived.Test.YtfeojfcnphjbdaaCrew
import Derived.Test.YtfeojfcnphjbdaaBothD
import Derived.Test.YtfeojfcnphjbdaaKeepM
import Derived.Test.YtfeojfcnphjbdaaSlTo
namespace Go.Proofs.Ytfeojfcnphjbdaa
open Go.RowKit Go.Maps Go.Sort
set_option linter.unusedVariables false

/-- The copy and its disk, and the names that were listed. -/
structure Keeping (w0 w : World) (c d : Nat) (Fd : Nat → Prop) (s s' : St) (gn : Nat) (no : Option Addr) (ks : List Key) (Fc : Nat → Prop) : Prop where
  crew : Crew w0 w [(c, Fc, s'), (d, Fd, s)]
  names : LiesN w gn no ks
  free : ks ≠ [] → Free Fc w gn
theorem Keeping.touch {w0 w w' : World} {c d : Nat} {Fd Fc : Nat → Prop} {s s' : St} {gn : Nat} {no : Option Addr} {ks : List Key} (h : Keeping w0 w c d Fd s s' gn no ks Fc) (t : Touch (fun _ => False) w w') : Keeping w0 w' c d Fd s s' gn no ks Fc :=
  ⟨h.crew.touch t, h.names.touch t, fun e => (h.free e).touch t⟩
theorem Keeping.step {w0 w w' : World} {c d : Nat} {Fd Fc : Nat → Prop} {s s' s2 : St} {gn : Nat} {no : Option Addr} {ks : List Key} (h : Keeping w0 w c d Fd s s' gn no ks Fc) (hP : LPost w0 c Fc s2 w w') : ∃ Fc', Keeping w0 w' c d Fd s s2 gn no ks Fc' := by
  obtain ⟨F1, hl, hs⟩ := id hP
  have hp := List.pairwise_cons.1 h.crew.apart
  have hd := (h.crew.live (d, Fd, s) (by simp)).other hs (h.crew.live (c, Fc, s') (by simp)).new (hp.1 (d, Fd, s) (by simp))
  refine ⟨F1, ⟨fun x hx => ?_, List.pairwise_cons.2 ⟨fun y hy => ?_, hp.2⟩⟩, h.names.keep fun e => (h.free e).same hs, fun e => (h.free e).step hs⟩
  · simp only [List.mem_cons, List.not_mem_nil, or_false] at hx
    rcases hx with rfl | rfl
    · exact hl
    · exact hd.1
  · simp only [List.mem_cons, List.not_mem_nil, or_false] at hy
    subst hy
    exact hd.2

set_option maxRecDepth 100000 in
set_option maxHeartbeats 3200000 in
theorem diskKeeps_any (w : World) (ao : Option Addr) (l : List StepV) (n0 c0 : Nat) (hn0 : n0 = l.length) (hS : Steps w ao l) (hlen : l.length ≤ 140737488355328) (kg : Nat) (ko : Option Addr) (zs : List Int) (n1 c1 : Nat) (hn1 : n1 = zs.length) (hL : LiesI w kg ko zs) (hzl : zs.length ≤ 140737488355328) (hz : ∀ y ∈ zs, i64in y) :
    Calls Try.prog 4 #[.slice ao n0 c0, .slice ko n1 c1] w fun e w' => e = .returned (.bool true) ∧ Touch (fun _ => False) w w' := by
  subst hn0 hn1
  have HK : Hid (Calls Try.prog 7 #[] w fun e w' => e = .returned (.bool true) ∧ Touch (fun _ => False) w w') := known_any w
  have HSt : Hid (∀ W, Touch (fun _ => False) w W → Steps W ao l) := fun W t => hS.touch t
  have HKp : Hid (LiesI w kg ko zs) := hL
  have HZi : Hid (∀ y ∈ zs, -9223372036854775808 ≤ y ∧ y ≤ 9223372036854775807) := fun y hy => hz y hy
  have HLi : Hid (∀ W, Touch (fun _ => False) w W → Calls Try.prog 8 #[.slice ao l.length c0] W fun e w' => e = .returned (.bool (isLight l)) ∧ Touch (fun _ => False) W w') := fun W t => light_any W ao l l.length c0 rfl (HSt.out W t) hlen
  clear hS hL hz
  cases hli : isLight l with
  | false =>
    rw [hli] at HLi
    go_enter Try.func4, Try.ntmps4
    go_wp2_with fail
    refine HK.out.mono ?_
    rintro e w1 ⟨rfl, hT1⟩
    have HT1 : Hid (Touch (fun _ => False) w w1) := hT1
    clear hT1 HK
    go_wp2_with fail
    refine (HLi.out w1 HT1.out).mono ?_
    rintro e w2 ⟨rfl, hT2⟩
    have HT2 : Hid (Touch (fun _ => False) w w2) := HT1.out.trans hT2
    clear hT2 HLi
    go_wp2_with fail
    go_ret
    exact ⟨rfl, HT2.out⟩
  | true =>
  rw [hli] at HLi
  by_cases hk5 : 500 < zs.length
  · have hk6 : (500 : Int) < (zs.length : Int) := by omega
    go_enter Try.func4, Try.ntmps4
    go_wp2_with fail
    refine HK.out.mono ?_
    rintro e w1 ⟨rfl, hT1⟩
    have HT1 : Hid (Touch (fun _ => False) w w1) := hT1
    clear hT1 HK
    go_wp2_with fail
    refine (HLi.out w1 HT1.out).mono ?_
    rintro e w2 ⟨rfl, hT2⟩
    have HT2 : Hid (Touch (fun _ => False) w w2) := HT1.out.trans hT2
    clear hT2 HLi
    go_wp2_with fail
    go_ret
    exact ⟨rfl, HT2.out⟩
  have hk6 : decide ((500 : Int) < (zs.length : Int)) = false := by simp; omega
  have hl3 : l.length ≤ 300 := by unfold isLight at hli; simp at hli; exact hli.1
  obtain ⟨fs, hfs⟩ := pEnd_pow 1048576 l []
  have hns : newSt 1048576 = St.mk [] 1048576 (-1) := rfl
  rw [← hns] at hfs
  have hz1 : fs.length ≤ 300 := by
    have := pEnd_len l (newSt 1048576)
    rw [hfs] at this; simp only [hns, List.length_nil] at this; omega
  have HN : Hid (∀ W, Calls Try.prog 9 #[.int .i64 1048576] W fun e w' => ∃ d F, e = .returned (dp d) ∧ Live W w' d F (newSt 1048576)) := fun W => lNew 1048576 (by decide) W
  have HP1 : Hid (∀ W0 W d F, Live W0 W d F (newSt 1048576) → Steps W0 ao l → Calls Try.prog 35 #[dp d, .slice ao l.length c0] W fun e w' => e = .returned (.int .i64 (pCnt (newSt 1048576) l : Int)) ∧ LPost W0 d F (St.mk fs 1048576 (-1)) W w') := by
    intro W0 W d F h hS
    rw [← hfs]
    exact play_any h ao l l.length c0 rfl hS (by simp only [newSt, List.length_nil]; omega)
  clear hfs hns hli hl3 hlen
  generalize (pCnt (newSt 1048576) l : Int) = p1 at *
  generalize newSt 1048576 = s0 at *
  obtain ⟨ks, hks⟩ : ∃ ks, ks = fs.map (·.1) := ⟨_, rfl⟩
  have hkn : ks.length = fs.length := by rw [hks]; simp
  obtain ⟨n, hn⟩ : ∃ n, n = ks.length := ⟨_, rfl⟩
  have hn3 : n ≤ 300 := by omega
  have HKS : Hid (ks = fs.map (·.1) ∧ n = fs.length ∧ n = ks.length) := ⟨hks, by omega, hn⟩
  clear hks hkn hn hz1
  go_enter Try.func4, Try.ntmps4
  go_wp2_with fail
  refine HK.out.mono ?_
  rintro e w1 ⟨rfl, hT1⟩
  have HT1 : Hid (Touch (fun _ => False) w w1) := hT1
  clear hT1 HK
  go_wp2_with fail
  refine (HLi.out w1 HT1.out).mono ?_
  rintro e w3 ⟨rfl, hT2⟩
  have HT3 : Hid (Touch (fun _ => False) w w3) := HT1.out.trans hT2
  have HS3 : Hid (Steps w3 ao l) := HSt.out _ HT3.out
  clear hT2 HLi HT1 HSt
  go_wp2_with fail
  refine (HN.out w3).mono ?_
  rintro e w4 ⟨d, Fd, rfl, hd⟩
  have H4 : Hid (Crew w3 w4 [(d, Fd, s0)]) := (Crew.nil w3).add (Touch.refl _ _) hd
  clear hd HN
  have HX := HP1.out _ _ _ _ (H4.out.live (d, Fd, s0) (by simp)) HS3.out
  have H : Hid (Calls Try.prog _ #[dp d, _] w4 _) := HX
  clear HX HP1 HS3
  go_wp2_with fail
  refine H.out.mono ?_
  rintro e w5 ⟨rfl, hP⟩
  obtain ⟨Fd5, hC⟩ := H4.out.step hP
  have H5 : Hid (Crew w3 w5 [(d, Fd5, St.mk fs 1048576 (-1))]) := hC
  clear hP hC H H4
  go_wp2_with fail
  refine (lCopy (H5.out.live (d, Fd5, St.mk fs 1048576 (-1)) (by simp)) (by have := HKS.out.2.1; simp only; omega)).mono ?_
  rintro e w6 ⟨c, Fc, rfl, hc⟩
  have H6 : Hid (Crew w3 w6 [(c, Fc, St.mk fs 1048576 (-1)), (d, Fd5, St.mk fs 1048576 (-1))]) := H5.out.add (H5.out.live (d, Fd5, St.mk fs 1048576 (-1)) (by simp)).since hc
  clear hc H5
  have H : Hid (Calls Try.prog 36 #[dp d] w6 fun e w' => ∃ no cn, e = .returned (.slice no n cn) ∧ Hid (∃ gn, Keeping w3 w' c d Fd5 (St.mk fs 1048576 (-1)) (St.mk fs 1048576 (-1)) gn no ks Fc)) := by
    refine (lList (H6.out.live (d, Fd5, St.mk fs 1048576 (-1)) (by simp)) (by have := HKS.out.2.1; simp only; omega)).mono ?_
    rintro e w' ⟨hp, _⟩
    have e1 : mList (St.mk fs 1048576 (-1)) = ks := by rw [HKS.out.1]; unfold mList; exact if_neg (by show ¬ ((-1 : Int) = 0); decide)
    rw [e1] at hp
    obtain ⟨no, cn, gn, he, hLn, hgn, t⟩ := names_lie hp
    rw [← HKS.out.2.2] at he
    exact ⟨no, cn, he, gn, H6.out.touch t, hLn, fun e => (H6.out.live (c, Fc, St.mk fs 1048576 (-1)) (by simp)).free t.size (hgn e).1 (hgn e).2⟩
  clear H6
  go_wp2_with fail
  refine H.out.mono ?_
  rintro e w7 ⟨no, cn, rfl, HZ7⟩
  obtain ⟨gn, hKp⟩ := HZ7.out
  have H7 : Hid (Keeping w3 w7 c d Fd5 (St.mk fs 1048576 (-1)) (St.mk (syncTo 0 fs) 1048576 (-1)) gn no ks Fc) := by rw [syncTo_zero]; exact hKp
  clear hKp HZ7 H
  go_wp2_with fail
  go_loopw [8] (fun i wr => ∃ j : Nat, i = .int .i64 (j : Int) ∧ j % 2 = 0 ∧ j ≤ n + 1 ∧ ∃ F, Keeping w3 wr c d Fd5 (St.mk fs 1048576 (-1)) (St.mk (syncTo j fs) 1048576 (-1)) gn no ks F) (fun i _ => (n + 2 - intOf i).toNat)
  case atStart => exact ⟨0, rfl, rfl, Nat.zero_le _, _, H7.out⟩
  case round =>
    obtain ⟨j, rfl, hj2, hj, F, hKp⟩ := hrel
    have HP : Hid (Keeping w3 wr c d Fd5 (St.mk fs 1048576 (-1)) (St.mk (syncTo j fs) 1048576 (-1)) gn no ks F) := hKp
    clear hKp H7
    by_cases hlt : j < n
    · have hjk : j < ks.length := by have := HKS.out.2.2; omega
      have hjf : j < fs.length := by have := HKS.out.2.1; omega
      have hne : ks ≠ [] := by rintro rfl; simp at hjk
      obtain ⟨rfl, hcell⟩ := HP.out.names.resolve_left hne
      have hx := hcell j hjk
      have hkey : ks[j] = fs[j].1 := by simp [HKS.out.1]
      have H : Hid (Calls Try.prog 15 #[dp c, .string (nameV ks[j])] wr fun e w' => e = .returned (.int .i64 0) ∧ ∃ F', Keeping w3 w' c d Fd5 (St.mk fs 1048576 (-1)) (St.mk (syncTo (j + 2) fs) 1048576 (-1)) gn (some ⟨gn, 0, none⟩) ks F') := by
        have hlv := HP.out.crew.live (c, F, St.mk (syncTo j fs) 1048576 (-1)) (by simp)
        have hrs := (HP.out.crew.live (d, Fd5, St.mk fs 1048576 (-1)) (by simp)).rising
        obtain ⟨q1, q2⟩ := sync_step hrs hjf hj2 1048576
        have hkl : (nameV ks[j]).size ≤ 281474976710656 := by
          have := hlv.names_le ks[j] (by
            unfold mList
            rw [if_neg (show ¬ ((-1 : Int) = 0) by decide)]
            rw [syncTo_keys, ← HKS.out.1]; exact List.getElem_mem hjk)
          simpa [nameV, ByteArray.size] using this
        refine (lSync hlv (by simp only [syncTo_len]; have := HKS.out.2.1; omega) (nameV ks[j]) hkl).mono ?_
        rintro e w' ⟨he, hP⟩
        have e1 : (nameV ks[j]).data.toList = fs[j].1 := hkey
        rw [e1, q1] at he
        rw [e1, q2] at hP
        exact ⟨he, HP.out.step hP⟩
      clear hcell hne hkey
      generalize nameV ks[j] = S at *
      go_wp2_with fail
      refine H.out.mono ?_
      rintro e w8 ⟨rfl, hP⟩
      have HP8 : Hid (∃ F', Keeping w3 w8 c d Fd5 (St.mk fs 1048576 (-1)) (St.mk (syncTo (j + 2) fs) 1048576 (-1)) gn (some ⟨gn, 0, none⟩) ks F') := hP
      clear hP H
      go_wp2_with fail
      go_roundw
      case rel => exact ⟨j + 2, by go_num, by omega, by omega, HP8.out⟩
      case measure => simp [intOf]; omega
    · have hjn : fs.length ≤ j := by have := HKS.out.2.1; omega
      obtain ⟨sc, hsc⟩ : ∃ sc, sc = mCrash (St.mk (syncTo j fs) 1048576 (-1)) zs := ⟨_, rfl⟩
      obtain ⟨m1, m2, m3⟩ := keep_end (HP.out.crew.live (d, Fd5, St.mk fs 1048576 (-1)) (by simp)).rising zs j hjn 1048576
      rw [← hsc] at m1 m2 m3
      have HM1 : Hid (mList sc = ks) := by rw [HKS.out.1]; exact m1
      have HM2 : Hid (sc.fs.length ≤ 1000) := by have := HKS.out.2.1; rw [Hid, m2]; show fs.length ≤ 1000; omega
      have HM3 : Hid (∀ i (h : i < fs.length), ∃ t, t ≤ fs[i].2.1.length ∧ (i % 2 = 0 → t = fs[i].2.1.length) ∧ mRead sc fs[i].1 = fs[i].2.1.take t) := m3
      have H : Hid (Calls Try.prog 30 #[dp c, .slice ko zs.length c1] wr fun e w' => e = .returned (.tuple #[]) ∧ ∃ F', Keeping w3 w' c d Fd5 (St.mk fs 1048576 (-1)) sc gn no ks F') := by
        have hlv := HP.out.crew.live (c, F, St.mk (syncTo j fs) 1048576 (-1)) (by simp)
        refine (lCrash hlv (by simp only [syncTo_len]; have := HKS.out.2.1; omega) kg ko zs zs.length c1 rfl (HKp.out.keep fun e => (HT3.out.trans hlv.since).block kg (HKp.out.lt e) id) HZi.out (fun e => (hlv.old (Nat.lt_of_lt_of_le (HKp.out.lt e) HT3.out.size)).out) (by omega)).mono ?_
        rintro e w' ⟨he, hP⟩
        rw [← hsc] at hP
        exact ⟨he, HP.out.step hP⟩
      clear m1 m2 m3 hsc hjn HZi
      go_wp2_with fail
      refine H.out.mono ?_
      rintro e w8 ⟨rfl, F8, hP⟩
      have H8 : Hid (Keeping w3 w8 c d Fd5 (St.mk fs 1048576 (-1)) sc gn no ks F8) := hP
      clear hP H HP
      have H : Hid (Calls Try.prog 36 #[dp c] w8 fun e w' => ∃ qo cq, e = .returned (.slice qo n cq) ∧ Hid (∃ gq, LiesN w' gq qo ks ∧ Keeping w3 w' c d Fd5 (St.mk fs 1048576 (-1)) sc gn no ks F8)) := by
        refine (lList (H8.out.crew.live (c, F8, sc) (by simp)) (by have := HM2.out; show sc.fs.length ≤ _; omega)).mono ?_
        rintro e w' ⟨hp, _⟩
        rw [HM1.out] at hp
        obtain ⟨qo, cq, gq, he, hLn, _, t⟩ := names_lie hp
        rw [← HKS.out.2.2] at he
        exact ⟨qo, cq, he, gq, hLn, H8.out.touch t⟩
      clear H8
      go_wp2_with fail
      refine H.out.mono ?_
      rintro e w9 ⟨qo, cq, rfl, HZ9⟩
      clear H
      go_wp2_with fail
      obtain ⟨gq, hq, hK9⟩ := HZ9.out
      refine (strings_any ks (by have := HKS.out.2.2; omega) w9 gq gn qo no n n cq cn HKS.out.2.2 HKS.out.2.2 hq hK9.names).mono ?_
      rintro e wa ⟨rfl, t⟩
      have Ha : Hid (Keeping w3 wa c d Fd5 (St.mk fs 1048576 (-1)) sc gn no ks F8) := hK9.touch t
      clear hq hK9 t HZ9
      go_wp2_with fail
      go_loopw [10, 11, 12, 13, 14] (fun i _ _ _ _ wr => ∃ j : Nat, i = .int .i64 (j : Int) ∧ j ≤ n ∧ Keeping w3 wr c d Fd5 (St.mk fs 1048576 (-1)) sc gn no ks F8) (fun i _ _ _ _ _ => (n - intOf i).toNat)
      case atStart => exact ⟨0, rfl, Nat.zero_le _, Ha.out⟩
      case round =>
        obtain ⟨j2, rfl, hj3, hKp⟩ := hrel
        have HP : Hid (Keeping w3 wr c d Fd5 (St.mk fs 1048576 (-1)) sc gn no ks F8) := hKp
        clear hKp Ha
        by_cases hlt2 : j2 < n
        · have hjk : j2 < ks.length := by have := HKS.out.2.2; omega
          have hjf : j2 < fs.length := by have := HKS.out.2.1; omega
          have hne : ks ≠ [] := by rintro rfl; simp at hjk
          obtain ⟨rfl, hcell⟩ := HP.out.names.resolve_left hne
          have hx := hcell j2 hjk
          have HY : Hid (∀ W, Touch (fun _ => False) wr W → W.cell? ⟨gn, j2, none⟩ = some (.string (nameV ks[j2]))) := fun W t => ((HP.out.names.touch t).resolve_left hne).2 j2 hjk
          have hkey : (nameV ks[j2]).data.toList = fs[j2].1 := by show ks[j2] = _; simp [HKS.out.1]
          have hlv := HP.out.crew.live (d, Fd5, St.mk fs 1048576 (-1)) (by simp)
          have hkl : (nameV ks[j2]).size ≤ 281474976710656 := by
            have := (HP.out.crew.live (c, F8, sc) (by simp)).names_le ks[j2] (by rw [HM1.out]; exact List.getElem_mem hjk)
            simpa [nameV, ByteArray.size] using this
          obtain ⟨t, ht1, ht2, ht3⟩ := HM3.out j2 hjf
          have hrd : mRead (St.mk fs 1048576 (-1)) fs[j2].1 = fs[j2].2.1 := by
            have := (at_idx hlv.rising hjf).1
            simp only at this
            simp [mRead, St.err, St.at, this]
          have HR1 : Hid (∀ W, Touch (fun _ => False) wr W → Calls Try.prog 23 #[dp d, .string (nameV ks[j2])] W fun e w' => (∃ po pc pg er, e = .returned (.tuple #[.slice po fs[j2].2.1.length pc, .int .i64 er]) ∧ Lies w' pg po fs[j2].2.1 ∧ fs[j2].2.1.length ≤ pc) ∧ Touch (fun _ => False) W w') := by
            intro W tw
            refine (lRead (hlv.touch tw) (by have := HKS.out.2.1; simp only; omega) (nameV ks[j2]) hkl).mono ?_
            rintro e w' ⟨⟨v, rfl, hrow⟩, _, tt⟩
            rw [hkey, hrd] at hrow
            obtain ⟨po, pc, pg, rfl, hL, _, hpc, _⟩ := lies_of_owned hrow
            exact ⟨⟨po, pc, pg, _, rfl, hL, hpc⟩, tt⟩
          have HR2 : Hid (∀ W, Touch (fun _ => False) wr W → Calls Try.prog 23 #[dp c, .string (nameV ks[j2])] W fun e w' => (∃ po pc pg er, e = .returned (.tuple #[.slice po t pc, .int .i64 er]) ∧ Lies w' pg po (fs[j2].2.1.take t)) ∧ Touch (fun _ => False) W w') := by
            intro W tw
            refine (lRead ((HP.out.crew.live (c, F8, sc) (by simp)).touch tw) (by have := HM2.out; show sc.fs.length ≤ _; omega) (nameV ks[j2]) hkl).mono ?_
            rintro e w' ⟨⟨v, rfl, hrow⟩, _, tt⟩
            rw [hkey, ht3] at hrow
            obtain ⟨po, pc, pg, rfl, hL, _⟩ := lies_of_owned hrow
            rw [show (fs[j2].2.1.take t).length = t from by simp; omega]
            exact ⟨⟨po, pc, pg, _, rfl, hL⟩, tt⟩
          clear hcell hne hkey hlv hkl ht3 hrd
          generalize nameV ks[j2] = S at *
          generalize fs[j2].2.1 = B at *
          go_wp2_with fail
          refine (HR1.out _ (Touch.refl _ _)).mono ?_
          rintro e wb ⟨⟨po, pc, pg, er, rfl, hp, hpc⟩, tb⟩
          have Hb : Hid (Lies wb pg po B ∧ Touch (fun _ => False) wr wb) := ⟨hp, tb⟩
          have hy := HY.out _ tb
          clear hp tb hx HY HR1
          go_wp2_with fail
          refine (HR2.out _ Hb.out.2).mono ?_
          rintro e wd ⟨⟨qo2, qc, qg, er2, rfl, hq⟩, td⟩
          have Hd : Hid (Lies wd pg po B ∧ Lies wd qg qo2 (B.take t) ∧ Touch (fun _ => False) wr wd) := ⟨Hb.out.1.keep fun e => td.block pg (Hb.out.1.lt e) id, hq, Hb.out.2.trans td⟩
          clear hq td hy HR2 Hb
          have hsl := fun W => slice_to po B.length pc t (by omega) W
          have hg1 : decide ((B.length : Int) < (t : Int)) = false := by simp; omega
          have HBy : Hid (Calls Try.prog 25 #[.slice qo2 t qc, .slice po t pc] wd fun e w' => e = .returned (.bool true) ∧ w' = wd) := by
            have htl : (B.take t).length = t := by simp; omega
            have := help_bytes qg pg qo2 po (B.take t) (B.take t) t t qc pc htl.symm htl.symm wd Hd.out.2.1 (Hd.out.1.take t)
            rw [show ((B.take t) == (B.take t)) = true from by simp] at this
            exact this
          by_cases he : j2 % 2 = 0
          · have hmod : ((j2 : Int)).tmod 2 = 0 := by have := Int.ofNat_tmod j2 2; rw [he] at this; exact this.symm
            have htB := ht2 he
            subst htB
            go_wp2_with fail
            refine HBy.out.mono ?_
            rintro e we ⟨rfl, hw⟩
            rw [hw]; clear hw HBy
            go_wp2_with fail
            go_roundw
            case rel => exact ⟨j2 + 1, by go_num, by omega, HP.out.touch Hd.out.2.2⟩
            case measure => simp [intOf]; omega
          · have hmod : ((j2 : Int)).tmod 2 = 1 := by have := Int.ofNat_tmod j2 2; rw [show j2 % 2 = 1 from by omega] at this; exact this.symm
            go_wp2_with fail
            refine HBy.out.mono ?_
            rintro e we ⟨rfl, hw⟩
            rw [hw]; clear hw HBy
            go_wp2_with fail
            go_roundw
            case rel => exact ⟨j2 + 1, by go_num, by omega, HP.out.touch Hd.out.2.2⟩
            case measure => simp [intOf]; omega
        · go_wp2_with fail
          go_ret
          exact ⟨rfl, HT3.out.trans (HP.out.crew.live (c, F8, sc) (by simp)).since⟩
end Go.Proofs.Ytfeojfcnphjbdaa
