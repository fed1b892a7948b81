/- quirelaw4.both at two disks in one state. -/
import Derived.Test.YtfeojfcnphjbdaaNamesH
import Derived.Test.YtfeojfcnphjbdaaKnown4
import Derived.Test.YtfeojfcnphjbdaaPlayM
namespace Go.Proofs.Ytfeojfcnphjbdaa
open Go.RowKit Go.Maps Go.Sort
set_option linter.unusedVariables false

/-- The names of a state are short. -/
theorem Live.names_le {w0 w : World} {d : Nat} {F : Nat → Prop} {s : St} (h : Live w0 w d F s) : ∀ k ∈ mList s, k.length ≤ 281474976710656 := by
  obtain ⟨m, es, hC, hR, hfs, hF, hFl⟩ := h.disk
  intro k hk
  unfold mList at hk
  split at hk
  · cases hk
  · rw [hfs] at hk
    obtain ⟨p, hp, rfl⟩ := List.mem_map.1 hk
    obtain ⟨q, hq, rfl⟩ := List.mem_map.1 hp
    exact hC.keys q hq
theorem mList_len (s : St) : (mList s).length ≤ s.fs.length := by
  unfold mList; split <;> simp

/-- Read of both: the same bytes, the same error. -/
theorem lRead2 {w0 w : World} {d : Nat} {F : Nat → Prop} {s : St} (h : Live w0 w d F s) (hn : s.fs.length ≤ 1073741823) (k : ByteArray) (hk : k.size ≤ 281474976710656) :
    Calls Try.prog 23 #[dp d, .string k] w fun e w' => (∃ ao cap g, e = .returned (.tuple #[.slice ao (mRead s k.data.toList).length cap, .int .i64 (s.err k.data.toList)]) ∧ LF F w' g ao (mRead s k.data.toList) ∧ (ao = none → cap = 0)) ∧ Live w0 w' d F s ∧ Touch (fun _ => False) w w' := by
  refine (lRead h hn k hk).mono ?_
  rintro e w' ⟨⟨v, rfl, hrow⟩, h2, t⟩
  obtain ⟨ao, cap, g, rfl, hL, hno⟩ := h.read t.size hrow
  exact ⟨⟨ao, cap, g, rfl, hL, hno⟩, h2, t⟩

set_option maxRecDepth 100000 in
set_option maxHeartbeats 1600000 in
theorem both_any {w0 w1 w : World} {a b : Nat} {Fa Fb : Nat → Prop} {s : St} (ha : Live w0 w a Fa s) (hb : Live w1 w b Fb s) (hn : s.fs.length ≤ 1073741823) :
    Calls Try.prog 38 #[dp a, dp b] w fun e w' => e = .returned (.bool true) ∧ Touch (fun _ => False) w w' := by
  obtain ⟨ks, hks⟩ : ∃ ks, ks = mList s := ⟨_, rfl⟩
  have hkl : ks.length ≤ 1073741823 := by have := mList_len s; rw [hks]; omega
  have HKN : Hid (∀ k ∈ ks, k.length ≤ 281474976710656) := by rw [hks]; exact ha.names_le
  have HLi : Hid (∀ W c Fc W0, Live W0 W c Fc s → Calls Try.prog 36 #[dp c] W fun e w' => (∃ ao cap g, e = .returned (.slice ao ks.length cap) ∧ LiesN w' g ao ks) ∧ Touch (fun _ => False) W w') := by
    intro W c Fc W0 h
    refine (lList h hn).mono ?_
    rintro e w' ⟨hp, _⟩
    rw [← hks] at hp
    obtain ⟨ao, cap, g, he, hL, _, t⟩ := names_lie hp
    exact ⟨⟨ao, cap, g, he, hL⟩, t⟩
  have HRd : Hid (∀ W c Fc W0 (k : ByteArray), k.size ≤ 281474976710656 → Live W0 W c Fc s → Calls Try.prog 23 #[dp c, .string k] W fun e w' => (∃ ao cap g, e = .returned (.tuple #[.slice ao (mRead s k.data.toList).length cap, .int .i64 (s.err k.data.toList)]) ∧ Lies w' g ao (mRead s k.data.toList)) ∧ Touch (fun _ => False) W w') := by
    intro W c Fc W0 k hk h
    refine (lRead2 h hn k hk).mono ?_
    rintro e w' ⟨⟨ao, cap, g, he, hL, _⟩, _, t⟩
    exact ⟨⟨ao, cap, g, he, hL.lies⟩, t⟩
  have HU : Hid (∀ W c Fc W0, Live W0 W c Fc s → Calls Try.prog 40 #[dp c] W fun e w' => e = .returned (.int .i64 (s.used : Int)) ∧ w' = W) := fun W c Fc W0 h => lUsed h
  have HDe : Hid (∀ W c Fc W0, Live W0 W c Fc s → Calls Try.prog 41 #[dp c] W fun e w' => e = .returned (.bool (decide (s.power = 0))) ∧ w' = W) := fun W c Fc W0 h => lDead h
  have HA : Hid (∀ W, Touch (fun _ => False) w W → Live w0 W a Fa s ∧ Live w1 W b Fb s) := fun W t => ⟨ha.touch t, hb.touch t⟩
  generalize decide (s.power = 0) = dd at *
  generalize (s.used : Int) = uu at *
  clear ha hb hks
  go_enter Try.func38, Try.ntmps38
  go_wp2_with fail
  refine (HLi.out _ _ _ _ (HA.out _ (Touch.refl _ _)).1).mono ?_
  rintro e w2 ⟨⟨ao, c1, g1, rfl, hL⟩, t⟩
  have H2 : Hid (LiesN w2 g1 ao ks ∧ Touch (fun _ => False) w w2) := ⟨hL, t⟩
  clear hL t
  go_wp2_with fail
  refine (HLi.out _ _ _ _ (HA.out _ H2.out.2).2).mono ?_
  rintro e w3 ⟨⟨bo, c2, g2, rfl, hL⟩, t⟩
  have H3 : Hid (LiesN w3 g1 ao ks ∧ LiesN w3 g2 bo ks ∧ Touch (fun _ => False) w w3) := ⟨H2.out.1.touch t, hL, H2.out.2.trans t⟩
  clear hL t H2 HLi
  go_wp2_with fail
  refine (strings_any ks (by omega) w3 g1 g2 ao bo _ _ c1 c2 rfl rfl H3.out.1 H3.out.2.1).mono ?_
  rintro e w4 ⟨rfl, t⟩
  have H4 : Hid (LiesN w4 g1 ao ks ∧ LiesN w4 g2 bo ks ∧ Touch (fun _ => False) w w4) := ⟨H3.out.1.touch t, H3.out.2.1.touch t, H3.out.2.2.trans t⟩
  clear t H3
  go_wp2_with fail
  refine (HU.out _ _ _ _ (HA.out _ H4.out.2.2).1).mono ?_
  rintro e w5 ⟨rfl, hw⟩
  rw [hw]; clear hw
  go_wp2_with fail
  refine (HU.out _ _ _ _ (HA.out _ H4.out.2.2).2).mono ?_
  rintro e w5 ⟨rfl, hw⟩
  rw [hw]; clear hw
  go_wp2_with fail
  refine (HDe.out _ _ _ _ (HA.out _ H4.out.2.2).1).mono ?_
  rintro e w5 ⟨rfl, hw⟩
  rw [hw]; clear hw
  go_wp2_with fail
  refine (HDe.out _ _ _ _ (HA.out _ H4.out.2.2).2).mono ?_
  rintro e w5 ⟨rfl, hw⟩
  rw [hw]; clear hw HU HDe
  go_wp2_with fail
  go_loopw [7, 8, 9, 10, 11] (fun i _ _ _ _ wr => ∃ k : Nat, i = .int .i64 (k : Int) ∧ k ≤ ks.length ∧ LiesN wr g1 ao ks ∧ LiesN wr g2 bo ks ∧ Touch (fun _ => False) w wr) (fun i _ _ _ _ _ => (ks.length - intOf i).toNat)
  case atStart => exact ⟨0, rfl, Nat.zero_le _, H4.out⟩
  case round =>
    obtain ⟨k, rfl, hk, hl1, hl2, ht⟩ := hrel
    have HT : Hid (LiesN wr g1 ao ks ∧ LiesN wr g2 bo ks ∧ Touch (fun _ => False) w wr) := ⟨hl1, hl2, ht⟩
    clear hl1 hl2 ht H4
    by_cases hlt : k < ks.length
    · have hne : ks ≠ [] := by rintro rfl; simp at hlt
      obtain ⟨rfl, hc1⟩ := HT.out.1.resolve_left hne
      obtain ⟨rfl, hc2⟩ := HT.out.2.1.resolve_left hne
      have hx := hc1 k hlt
      have HY : Hid (∀ W, Touch (fun _ => False) wr W → W.cell? ⟨g2, k, none⟩ = some (.string (nameV ks[k]))) := by
        intro W t
        exact ((HT.out.2.1.touch t).resolve_left hne).2 k hlt
      have hSz : (nameV ks[k]).size ≤ 281474976710656 := by
        have := HKN.out ks[k] (List.getElem_mem hlt)
        simpa [nameV, ByteArray.size] using this
      clear hc1 hc2 hne
      generalize nameV ks[k] = S at *
      have HR1 : Hid (∀ W c Fc W0, Live W0 W c Fc s → Calls Try.prog 23 #[dp c, .string S] W fun e w' => (∃ ao cap g, e = .returned (.tuple #[.slice ao (mRead s S.data.toList).length cap, .int .i64 (s.err S.data.toList)]) ∧ Lies w' g ao (mRead s S.data.toList)) ∧ Touch (fun _ => False) W w') := fun W c Fc W0 h => HRd.out W c Fc W0 S hSz h
      generalize mRead s S.data.toList = bs at *
      generalize s.err S.data.toList = er at *
      clear HRd HKN hSz
      go_wp2_with fail
      refine (HR1.out _ _ _ _ (HA.out _ HT.out.2.2).1).mono ?_
      rintro e w5 ⟨⟨po, pc, pg, rfl, hp⟩, t⟩
      have H5 : Hid (Lies w5 pg po bs ∧ Touch (fun _ => False) wr w5) := ⟨hp, t⟩
      have hy := HY.out _ t
      clear hp t hx HY
      go_wp2_with fail
      refine (HR1.out _ _ _ _ (HA.out _ (HT.out.2.2.trans H5.out.2)).2).mono ?_
      rintro e w6 ⟨⟨qo, qc, qg, rfl, hq⟩, t⟩
      have H6 : Hid (Lies w6 pg po bs ∧ Lies w6 qg qo bs ∧ Touch (fun _ => False) wr w6) := ⟨H5.out.1.keep fun e => t.block pg (H5.out.1.lt e) id, hq, H5.out.2.trans t⟩
      clear hq t hy H5 HR1
      go_wp2_with fail
      refine (help_bytes pg qg po qo bs bs _ _ pc qc rfl rfl w6 H6.out.1 H6.out.2.1).mono ?_
      rintro e w7 ⟨rfl, hw⟩
      rw [hw, show (bs == bs) = true from by simp]; clear hw
      go_wp2_with fail
      go_roundw
      case rel => exact ⟨k + 1, by go_num, by omega, HT.out.1.touch H6.out.2.2, HT.out.2.1.touch H6.out.2.2, HT.out.2.2.trans H6.out.2.2⟩
      case measure => simp [intOf]; omega
    · go_wp2_with fail
      go_ret
      exact ⟨rfl, HT.out.2.2⟩
end Go.Proofs.Ytfeojfcnphjbdaa
