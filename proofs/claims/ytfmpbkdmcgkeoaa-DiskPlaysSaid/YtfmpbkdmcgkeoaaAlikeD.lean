/- quirelaw4.alike at two disks in one state. -/
import Derived.Test.YtfmpbkdmcgkeoaaPart10
import Derived.Test.YtfmpbkdmcgkeoaaSpoilD
import Derived.Test.YtfmpbkdmcgkeoaaPart12
import Derived.Test.YtfmpbkdmcgkeoaaRefZa
import Derived.Deep.QuietTactic
import Derived.BigQuiet
namespace Go.Proofs.Ytfmpbkdmcgkeoaa
open Go.RowKit Go.Maps Go.Sort
set_option linter.unusedVariables false
set_option linter.unusedSimpArgs false

theorem lRead3 {w0 w : World} {d : Nat} {F : Nat → Prop} {s : St} (h : Live w0 w d F s) (hn : s.fs.length ≤ 1073741823) (k : ByteArray) (hk : k.size ≤ 281474976710656) :
    Calls Try.prog 20 #[dp d, .string k] w fun e w' => (∃ ao cap, e = .returned (.tuple #[.slice ao (mRead s k.data.toList).length cap, .int .i64 (s.err k.data.toList)]) ∧ w'.ownsRow w.heap.size 5 1 (.slice ao (mRead s k.data.toList).length cap) (mRead s k.data.toList).length (cellsOf (mRead s k.data.toList))) ∧ Touch (fun _ => False) w w' := by
  refine (lRead h hn k hk).mono ?_
  rintro e w' ⟨⟨v, rfl, hrow⟩, h2, t⟩
  obtain ⟨ao, cap, g, rfl, hL, _⟩ := lies_of_owned hrow
  exact ⟨⟨ao, cap, rfl, hrow⟩, t⟩
theorem absL_get {l : List RFl} {k : Nat} (h : k < l.length) : (absL l)[k]'(by simpa [absL] using h) = (l[k].key, (l[k].bs, l[k].syn)) := by
  simp [absL, RFl.abs, RFl.key]
theorem nameV_eq (b : ByteArray) : nameV b.data.toList = b := by
  unfold nameV; cases b; simp

set_option maxRecDepth 100000 in
set_option maxHeartbeats 8000000 in
theorem alike_any {w0 w : World} {d r : Nat} {F G : Nat → Prop} {s : St} (h : Pair w0 w d r F G s) (hn : s.fs.length ≤ 1073741823) (hlen : ∀ p ∈ s.fs, p.2.1.length ≤ 9223372036854775807) :
    Calls Try.prog 31 #[dp d, rp r] w fun e w' => e = .returned (.bool true) ∧ Touch (fun _ => False) w w' := by
  obtain ⟨ks, hks⟩ : ∃ ks, ks = mList s := ⟨_, rfl⟩
  have hkl : ks.length ≤ 1073741823 := by have := mList_len s; rw [hks]; omega
  have HKN : Hid (∀ k ∈ ks, k.length ≤ 281474976710656) := by rw [hks]; exact h.live.names_le
  have HP : Hid (∀ W, Touch (fun _ => False) w W → Pair w0 W d r F G s) := fun W t => h.touch t
  have HLi : Hid (∀ W, Pair w0 W d r F G s → Calls Try.prog 32 #[dp d] W fun e w' => (∃ ao cap g, e = .returned (.slice ao ks.length cap) ∧ LiesN w' g ao ks ∧ (ks ≠ [] → W.heap.size ≤ g)) ∧ Touch (fun _ => False) W w') := by
    intro W h
    refine (lList h.live hn).mono ?_
    rintro e w' ⟨hp, _⟩
    rw [← hks] at hp
    obtain ⟨ao, cap, g, he, hL, hg, t⟩ := names_lie hp
    exact ⟨⟨ao, cap, g, he, hL, fun e => (hg e).1⟩, t⟩
  have HU : Hid (∀ W, Pair w0 W d r F G s → Calls Try.prog 33 #[dp d] W fun e w' => e = .returned (.int .i64 (s.used : Int)) ∧ w' = W) := fun W h => lUsed h.live
  have HDe : Hid (∀ W, Pair w0 W d r F G s → Calls Try.prog 34 #[dp d] W fun e w' => e = .returned (.bool (decide (s.power = 0))) ∧ w' = W) := fun W h => lDead h.live
  have HRU : Hid (∀ W, Pair w0 W d r F G s → Calls Try.prog 41 #[rp r] W fun e w' => e = .returned (.int .i64 (s.used : Int)) ∧ w' = W) := by
    intro W h
    obtain ⟨v, l, hC, hfs, _⟩ := h.ref
    have := rused_any hC (by have : l.length = s.fs.length := by rw [hfs]; simp [absL]
                             omega)
    rw [rsum_abs l s.room s.power, ← hfs] at this
    exact this
  have HRD : Hid (∀ W, Pair w0 W d r F G s → Calls Try.prog 38 #[rp r] W fun e w' => e = .returned (.bool (decide (s.power = 0))) ∧ w' = W) := fun W h => h.ref.dead
  have hnot : ∀ (x : Bool) (w : World), (Op.unary .not (.bool x)).run Try.prog w = .ok (.bool (!x)) w := fun _ _ => rfl
  obtain ⟨lv, lcap, HRow⟩ : ∃ lv lcap, Hid (∀ W, Touch (fun _ => False) w W → W.cell? ⟨r, 0, none⟩ = some (.slice lv s.fs.length lcap) ∧ ∀ k (hk : k < s.fs.length), ∃ gv, lv = some ⟨gv, 0, none⟩ ∧ W.cell? ⟨gv, k * 3, none⟩ = some (.string (nameV s.fs[k].1)) ∧ ∃ bo bc bg, W.cell? ⟨gv, k * 3 + 1, none⟩ = some (.slice bo s.fs[k].2.1.length bc) ∧ Lies W bg bo s.fs[k].2.1) := by
    obtain ⟨v, l, hC, hfs, _⟩ := h.ref
    have hll : l.length = s.fs.length := by rw [hfs]; simp [absL]
    obtain ⟨lv, lcap, rfl, _⟩ := hC.lies
    refine ⟨lv, lcap, fun W t => ?_⟩
    have hC' := hC.touch t
    refine ⟨by rw [← hll]; exact hC'.c0, fun k hk => ?_⟩
    have hk' : k < l.length := by omega
    obtain ⟨gv, cv, ev, _, _, _, _, hcell⟩ := hC'.row (by rintro rfl; simp at hk')
    cases ev
    obtain ⟨q0, q1, q2⟩ := hcell k hk'
    have e : s.fs[k] = (l[k].key, (l[k].bs, l[k].syn)) := by
      have := absL_get hk'
      simp only [hfs]
      exact this
    refine ⟨gv, rfl, ?_, l[k].bo, l[k].cap, l[k].g, ?_, ?_⟩
    · rw [e, q0]
      show some (Value.string l[k].name) = some (.string (nameV l[k].name.data.toList))
      rw [nameV_eq]
    · rw [e]; exact q1
    · rw [e]; exact (hC'.ok _ (List.getElem_mem hk')).lies
  have HRd : Hid (∀ W (k : ByteArray), k.size ≤ 281474976710656 → Pair w0 W d r F G s → Calls Try.prog 20 #[dp d, .string k] W fun e w' => (∃ ao cap, e = .returned (.tuple #[.slice ao (mRead s k.data.toList).length cap, .int .i64 (s.err k.data.toList)]) ∧ w'.ownsRow W.heap.size 5 1 (.slice ao (mRead s k.data.toList).length cap) (mRead s k.data.toList).length (cellsOf (mRead s k.data.toList))) ∧ Touch (fun _ => False) W w') := fun W k hk h => lRead3 h.live hn k hk
  have hri := h.live.rising
  have HKs : Hid (¬ s.power = 0 → ks.length = s.fs.length ∧ ∀ k (h1 : k < ks.length) (h2 : k < s.fs.length), ks[k] = s.fs[k].1 ∧ s.err ks[k] = 0 ∧ mRead s ks[k] = s.fs[k].2.1) := by
    intro hp
    have e : ks = s.fs.map (·.1) := by rw [hks]; unfold mList; rw [if_neg hp]
    refine ⟨by rw [e]; simp, fun k h1 h2 => ?_⟩
    have e1 : ks[k] = s.fs[k].1 := by simp [e]
    have hg : aget s.fs[k].1 s.fs = some s.fs[k].2 := aget_of_mem hri (List.getElem_mem h2)
    have he : s.err ks[k] = 0 := by unfold St.err; rw [if_neg hp, e1, hg]; rfl
    refine ⟨e1, he, ?_⟩
    unfold mRead; rw [if_pos he, e1]; unfold St.at; rw [hg]; rfl
  have HKd : Hid (s.power = 0 → ks.length = 0) := by
    intro hp; rw [hks]; unfold mList; rw [if_pos hp]; rfl
  have HLn : Hid (∀ p ∈ s.fs, p.2.1.length ≤ 9223372036854775807) := hlen
  clear h hks hri hlen
  go_enter Try.func31, Try.ntmps31
  go_wp2_with fail
  refine (HLi.out _ (HP.out _ (Touch.refl _ _))).mono ?_
  rintro e w2 ⟨⟨ao, c1, g1, rfl, hL, hg1⟩, t⟩
  have H2 : Hid (LiesN w2 g1 ao ks ∧ Touch (fun _ => False) w w2 ∧ (ks ≠ [] → w.heap.size ≤ g1)) := ⟨hL, t, hg1⟩
  clear hL t HLi hg1
  have HPw : Hid (Pair w0 w2 d r F G s) := HP.out _ H2.out.2.1
  obtain ⟨rc0, _⟩ := HRow.out w2 H2.out.2.1
  by_cases hp : s.power = 0
  case pos =>
    have hk0 := HKd.out hp
    rw [decide_eq_true hp] at HDe HRD
    clear HKs HRow HRd hp
    generalize (s.used : Int) = uu at *
    go_wp2_with fail
    refine (HDe.out _ HPw.out).mono ?_
    rintro e w5 ⟨rfl, hw⟩
    rw [hw]; clear hw
    go_wp2_with fail
    refine (HRD.out _ HPw.out).mono ?_
    rintro e w5 ⟨rfl, hw⟩
    rw [hw]; clear hw
    go_wp2_with fail
    refine (HU.out _ HPw.out).mono ?_
    rintro e w5 ⟨rfl, hw⟩
    rw [hw]; clear hw
    go_wp2_with fail
    refine (HRU.out _ HPw.out).mono ?_
    rintro e w5 ⟨rfl, hw⟩
    rw [hw]; clear hw
    go_wp2_with fail
    refine (HRD.out _ HPw.out).mono ?_
    rintro e w5 ⟨rfl, hw⟩
    rw [hw]; clear hw
    go_wp2_with fail
    refine (HRD.out _ HPw.out).mono ?_
    rintro e w5 ⟨rfl, hw⟩
    rw [hw]; clear hw
    go_wp2_with fail
    go_loopw [6] (fun i wr => i = .int .i64 0 ∧ wr = w2) (fun _ _ => 0)
    case atStart => exact ⟨rfl, rfl⟩
    case round =>
      obtain ⟨rfl, hw⟩ := hrel
      rw [hw]
      clear hw
      go_wp2_with fail
      go_ret
      exact ⟨rfl, H2.out.2.1⟩
  obtain ⟨hkk, HK2⟩ := HKs.out hp
  have HK3 : Hid (∀ k (h1 : k < ks.length) (h2 : k < s.fs.length), ks[k] = s.fs[k].1 ∧ s.err ks[k] = 0 ∧ mRead s ks[k] = s.fs[k].2.1) := HK2
  rw [decide_eq_false hp] at HDe HRD
  clear HKs HK2 hp HKd
  have HKK : Hid (ks.length = s.fs.length) := hkk
  rw [← hkk] at rc0
  clear hkk
  generalize (s.used : Int) = uu at *
  go_wp2_with fail
  refine (HDe.out _ HPw.out).mono ?_
  rintro e w5 ⟨rfl, hw⟩
  rw [hw]; clear hw
  go_wp2_with fail
  refine (HRD.out _ HPw.out).mono ?_
  rintro e w5 ⟨rfl, hw⟩
  rw [hw]; clear hw
  go_wp2_with fail
  refine (HU.out _ HPw.out).mono ?_
  rintro e w5 ⟨rfl, hw⟩
  rw [hw]; clear hw
  go_wp2_with fail
  refine (HRU.out _ HPw.out).mono ?_
  rintro e w5 ⟨rfl, hw⟩
  rw [hw]; clear hw
  go_wp2_with fail
  refine (HRD.out _ HPw.out).mono ?_
  rintro e w5 ⟨rfl, hw⟩
  rw [hw]; clear hw
  go_wp2_with fail
  refine (HRD.out _ HPw.out).mono ?_
  rintro e w5 ⟨rfl, hw⟩
  rw [hw]; clear hw
  go_wp2_with fail
  clear HDe HRD HU HRU rc0
  go_loopw [6, 7, 8] (fun i _ _ wr => ∃ k : Nat, i = .int .i64 (k : Int) ∧ k ≤ ks.length ∧ LiesN wr g1 ao ks ∧ Touch (fun _ => False) w wr) (fun i _ _ _ => (ks.length - intOf i).toNat)
  case atStart => exact ⟨0, rfl, Nat.zero_le _, H2.out.1, H2.out.2.1⟩
  case round =>
    obtain ⟨k, rfl, hk, hl1, ht⟩ := hrel
    have HTk : Hid (LiesN wr g1 ao ks ∧ Touch (fun _ => False) w wr) := ⟨hl1, ht⟩
    clear hl1 ht
    by_cases hlt : k < ks.length
    · have hne : ks ≠ [] := by rintro rfl; simp at hlt
      obtain ⟨rfl, hc1⟩ := HTk.out.1.resolve_left hne
      have hx := hc1 k hlt
      have hk2 : k < s.fs.length := by have := HKK.out; omega
      obtain ⟨e1, e2, e3⟩ := HK3.out k hlt hk2
      have hSz : (nameV ks[k]).size ≤ 281474976710656 := by
        have := HKN.out ks[k] (List.getElem_mem hlt)
        simpa [nameV, ByteArray.size] using this
      have hnd : (nameV ks[k]).data.toList = ks[k] := by simp [nameV]
      have HRdk := HRd.out wr (nameV ks[k]) hSz (HP.out wr HTk.out.2)
      rw [hnd, e2, e3] at HRdk
      have HRk : Hid (∀ W, Touch (fun _ => False) w W → W.cell? ⟨r, 0, none⟩ = some (.slice lv ks.length lcap) ∧ ∃ gv, lv = some ⟨gv, 0, none⟩ ∧ W.cell? ⟨gv, k * 3, none⟩ = some (.string (nameV ks[k])) ∧ ∃ bo bc bg, W.cell? ⟨gv, k * 3 + 1, none⟩ = some (.slice bo s.fs[k].2.1.length bc) ∧ Lies W bg bo s.fs[k].2.1) := by
        intro W t
        obtain ⟨q0, q1⟩ := HRow.out W t
        obtain ⟨gv, q2, q3, q4⟩ := q1 k hk2
        exact ⟨by rw [HKK.out]; exact q0, gv, q2, by rw [e1]; exact q3, q4⟩
      have HNm : Hid (∀ W, Touch (fun _ => False) wr W → W.cell? ⟨g1, k, none⟩ = some (.string (nameV ks[k]))) := by
        intro W t
        exact ((HTk.out.1.touch t).resolve_left hne).2 k hlt
      have hbl := HLn.out s.fs[k] (List.getElem_mem hk2)
      have HG1 : Hid (w.heap.size ≤ g1) := H2.out.2.2 hne
      generalize s.fs[k].2.1 = bs at *
      generalize nameV ks[k] = S at *
      have HRD2 : Hid (Calls Try.prog 20 #[dp d, .string S] wr _) := HRdk
      clear e1 e2 e3 HRdk hnd hSz hc1 hne HRow HRd HK3 H2 HPw hk2
      go_wp2_with fail
      refine HRD2.out.mono ?_
      rintro e w5 ⟨⟨po, pc, rfl, hrow⟩, t⟩
      obtain ⟨rc0, gv, rfl, rn, bo, bc, bg, rb, rl⟩ := HRk.out w5 (HTk.out.2.trans t)
      have hy := HNm.out w5 t
      obtain ⟨po', pc', pg, he', hLp, _⟩ := lies_of_owned hrow
      cases he'
      have HB : Hid (∀ n, Calls Try.prog 22 #[.slice po bs.length pc, .slice bo bs.length bc] (w5.drewN n) fun e w' => e = .returned (.bool true) ∧ w' = w5.drewN n) := by
        intro n
        have tn := (Touch.refl (fun _ => False) w5).drewN' n
        have := help_bytes pg bg po bo bs bs _ _ pc bc rfl rfl (w5.drewN n) (hLp.keep fun e => tn.block _ (hLp.lt e) id) (rl.keep fun e => tn.block _ (rl.lt e) id)
        simpa using this
      have HSp : Hid (∀ n, Calls Try.prog 11 #[.slice po bs.length pc] (w5.drewN n) fun e w' => e = .returned (.tuple #[]) ∧ LiesN w' g1 (some ⟨g1, 0, none⟩) ks ∧ Touch (fun _ => False) w w') := by
        intro n
        have tn := (Touch.refl (fun _ => False) w5).drewN' n
        have hrow' : (w5.drewN n).ownsRow wr.heap.size 5 1 (.slice po bs.length pc) bs.length (cellsOf bs) := hrow
        refine (spoil_owned wr.heap.size _ bs (w5.drewN n) hbl hrow').mono ?_
        rintro e w' ⟨rfl, t3⟩
        have ta : Touch (fun _ => False) wr w' := (t.trans tn).then t3 (fun i hi e => by have := e.1; omega)
        exact ⟨rfl, HTk.out.1.touch ta, HTk.out.2.trans ta⟩
      have hSS : (S == S) = true := bbeq_self S
      have i1 : (0 : Int) ≤ (k : Int) := by omega
      have i2 : (k : Int) < (ks.length : Int) := by omega
      clear hrow t rl hLp HRk HNm hx HRD2
      go_wp2_with fail
      go_quiet (first | (go_at_call 22; exact Calls.quiet_of_same (HB.out _)))
      go_wp2_with fail
      refine (HSp.out _).mono ?_
      rintro e w6 ⟨rfl, hl6, ht6⟩
      have HZ : Hid (LiesN w6 g1 (some ⟨g1, 0, none⟩) ks ∧ Touch (fun _ => False) w w6) := ⟨hl6, ht6⟩
      clear hl6 ht6 HSp HB
      go_wp2_with fail
      go_roundw
      case rel => exact ⟨k + 1, by go_num, by omega, HZ.out.1, HZ.out.2⟩
      case measure => simp [intOf]; omega
    · have hke : k = ks.length := by omega
      subst hke
      go_wp2_with fail
      go_ret
      exact ⟨rfl, HTk.out.2⟩
end Go.Proofs.Ytfmpbkdmcgkeoaa
