/- The contract of disk's Crash. -/
import Derived.Test.YtfmpbkdmcgkeoaaCrashL
import Derived.Test.YtfmpbkdmcgkeoaaLay2
import Derived.BigRegion
namespace Go.Proofs.Ytfmpbkdmcgkeoaa
open Go.RowKit Go.Maps Go.Sort
set_option linter.unusedVariables false

def crashSt (s : St) (keep : List Int) (k : Nat) : St := ⟨crashAll keep 0 (s.fs.take k) ++ s.fs.drop k, s.room, s.power⟩
theorem crashSt_zero (s : St) (keep : List Int) : crashSt s keep 0 = s := by simp [crashSt, crashAll]
theorem crashSt_all (s : St) (keep : List Int) {k : Nat} (h : s.fs.length ≤ k) : crashSt s keep k = ⟨crashAll keep 0 s.fs, s.room, s.power⟩ := by
  simp [crashSt, List.take_of_length_le h, List.drop_of_length_le h]
theorem crashSt_mid (s : St) (keep : List Int) {k : Nat} (h : k < s.fs.length) : (crashSt s keep k).fs = crashAll keep 0 (s.fs.take k) ++ (s.fs[k].1, s.fs[k].2) :: s.fs.drop (k + 1) := by
  simp only [crashSt]
  rw [List.drop_eq_getElem_cons h]
theorem crashSt_succ (s : St) (keep : List Int) {k : Nat} (h : k < s.fs.length) : (crashSt s keep (k + 1)).fs = crashAll keep 0 (s.fs.take k) ++ (s.fs[k].1, crashA keep k s.fs[k].2) :: s.fs.drop (k + 1) := by
  simp only [crashSt]
  rw [List.take_succ_eq_append_getElem h, crashAll_snoc, List.length_take, Nat.min_eq_left (Nat.le_of_lt h)]
  simp

/-- A round's step. -/
theorem crashSt_step (s : St) (keep : List Int) {k : Nat} (h : k < s.fs.length) (hr : Rising (crashSt s keep k).fs) : (crashSt s keep k).at s.fs[k].1 = s.fs[k].2 ∧ crashSt s keep (k + 1) = ⟨aput s.fs[k].1 (((crashSt s keep k).at s.fs[k].1).1.take (stay keep k s.fs[k].2), stay keep k s.fs[k].2) (crashSt s keep k).fs, (crashSt s keep k).room, (crashSt s keep k).power⟩ := by
  have hm := crashSt_mid s keep h
  have ha : (crashSt s keep k).at s.fs[k].1 = s.fs[k].2 := by
    unfold St.at
    rw [hm] at hr ⊢
    rw [aget_mid _ _ _ _ hr]; rfl
  refine ⟨ha, ?_⟩
  rw [ha]
  have hs := crashSt_succ s keep h
  have e : ∀ s1 s2 : St, s1.fs = s2.fs → s1.room = s2.room → s1.power = s2.power → s1 = s2 := by
    rintro ⟨a, b, c⟩ ⟨a2, b2, c2⟩ rfl rfl rfl; rfl
  refine e _ _ ?_ rfl rfl
  show _ = aput _ _ (crashSt s keep k).fs
  rw [hs]
  rw [hm] at hr ⊢
  rw [aput_mid _ _ _ _ _ hr]; rfl

theorem DPost.pre {d : Nat} {F : Nat → Prop} {s : St} {w w1 w2 : World} (t : Touch (fun _ => False) w w1) (h : DPost d F s w1 w2) : DPost d F s w w2 := by
  obtain ⟨F', h1, t2, hf⟩ := h
  exact ⟨F', h1, (t.mono fun _ _ h => h.elim).trans t2, fun k hk h => hf k (Nat.lt_of_lt_of_le hk t.size) h⟩
theorem DPost.join {d : Nat} {F F1 : Nat → Prop} {s : St} {w w1 w2 : World} (t : Touch F w w1) (hf : ∀ k, k < w.heap.size → F1 k → F k) (h : DPost d F1 s w1 w2) : DPost d F s w w2 := by
  obtain ⟨F', h1, t2, hf2⟩ := h
  exact ⟨F', h1, t.then t2 hf, fun k hk h => hf k hk (hf2 k (Nat.lt_of_lt_of_le hk t.size) h)⟩

set_option maxRecDepth 100000 in
set_option maxHeartbeats 1600000 in
theorem crash_any {w : World} {d : Nat} {F : Nat → Prop} {s : St} (hD : Disk w d F s) (hn : s.fs.length ≤ 1073741823) (g : Nat) (ao : Option Addr) (keep : List Int) (nk cap : Nat) (hnk : nk = keep.length) (hL : LiesI w g ao keep) (hki : ∀ x ∈ keep, -9223372036854775808 ≤ x ∧ x ≤ 9223372036854775807) (hgF : keep ≠ [] → ¬ F g) (hkl : keep.length ≤ 9223372036854775807) :
    Calls Try.prog 27 #[.pointer (some ⟨d, 0, none⟩), .slice ao nk cap] w fun e w' => e = .returned (.tuple #[]) ∧ DPost d F (mCrash s keep) w w' := by
  subst hnk
  have HN : Hid (Calls Try.prog 49 #[.pointer (some ⟨d, 0, none⟩)] w (NamesPost (s.fs.map (·.1)) w)) := by
    obtain ⟨m, es, hC, hR, hfs, hF, hFl⟩ := hD
    have hn2 : es.length ≤ 1073741823 := by rw [hfs, length_amap] at hn; exact hn
    have e : s.fs.map (·.1) = es.map (·.1) := by rw [hfs]; simp [amap, Function.comp_def]
    rw [e]
    exact names_any hC (by omega)
  have HFl : Hid (∀ k, F k → k < w.heap.size) := fun k hk => hD.lt hk
  have HD : Hid (Disk w d F s) := hD
  have HL : Hid (LiesI w g ao keep) := hL
  have HK : Hid (∀ x ∈ keep, -9223372036854775808 ≤ x ∧ x ≤ 9223372036854775807) := hki
  have HG : Hid (keep ≠ [] → ¬ F g) := hgF
  clear hD hL hki hgF
  go_enter Try.func27, Try.ntmps27
  go_wp2_with fail
  refine HN.out.mono ?_
  rintro e w1 ⟨v, rfl, hrow, hT⟩
  have HT : Hid (Touch (fun _ => False) w w1) := hT
  obtain ⟨no, ncap, rfl, HNC⟩ : ∃ no ncap, v = .slice no s.fs.length ncap ∧ Hid (∀ k (h : k < s.fs.length), ∃ gN, no = some ⟨gN, 0, none⟩ ∧ w.heap.size ≤ gN ∧ gN < w1.heap.size ∧ w1.cell? ⟨gN, k, none⟩ = some (Go.Proofs.encStr s.fs[k].1)) := by
    rw [List.length_map] at hrow
    rcases hrow.2 with ⟨e, h0⟩ | ⟨gN, c, cur, e, hb, hg, h1, h2, h3, h4⟩
    · exact ⟨none, 0, by rw [e, h0], fun k h => by omega⟩
    · refine ⟨_, c, e, fun k h => ⟨gN, rfl, hb, lt_of_heap hg, ?_⟩⟩
      rw [cell_of_block hg]
      have h5 : ((s.fs.map (·.1)).map Go.Proofs.encStr)[k]? = some (Go.Proofs.encStr s.fs[k].1) := by simp [List.getElem?_eq_getElem h]
      rw [← h4, List.getElem?_take] at h5
      rw [if_pos (by omega)] at h5
      rw [← h5, Array.getElem?_toList]
  clear hrow hT HN
  go_wp2_with fail
  go_loopw [11] (fun i wr => ∃ k : Nat, i = .int .i64 (k : Int) ∧ k ≤ s.fs.length ∧ DPost d F (crashSt s keep k) w1 wr) (fun i _ => (s.fs.length - intOf i).toNat)
  case atStart => exact ⟨0, rfl, Nat.zero_le _, by rw [crashSt_zero]; exact DPost.refl (HD.out.touch HT.out fun _ _ => id)⟩
  case round =>
    obtain ⟨k, rfl, hk, hP⟩ := hrel
    by_cases hlt : k < s.fs.length
    · obtain ⟨gN, rfl, hgN1, hgN2, hnc⟩ := HNC.out k hlt
      obtain ⟨F1, hD1, t1, hf1⟩ := hP
      have hncr : wr.cell? ⟨gN, k, none⟩ = some (.string ⟨⟨s.fs[k].1⟩⟩) := (t1.cell hgN2 (fun h => by have := HFl.out gN h; omega) _).trans hnc
      have HLr : Hid (LiesI wr g ao keep) := HL.out.keep fun hne => by
        have hgl := HL.out.lt hne
        rw [t1.block g (Nat.lt_of_lt_of_le hgl HT.out.size) (HG.out hne), HT.out.block g hgl id]
      obtain ⟨m, es, hC, hR, hfs, hF, hFl⟩ := hD1
      have hln : es.length ≤ 1073741823 := by
        have := congrArg List.length hfs
        rw [length_amap] at this
        rw [← this]
        simp only [crashSt, List.length_append, crashAll_length, List.length_take, List.length_drop]; omega
      have hri : Rising (crashSt s keep k).fs := rising_abs hC.rising hfs
      obtain ⟨hat, hnext⟩ := crashSt_step s keep hlt hri
      have hatf : (getF s.fs[k].1 es).abs = s.fs[k].2 := (at_of hfs _).symm.trans hat
      have hkey : s.fs[k].1.length ≤ 281474976710656 := by
        have hm : (s.fs[k].1, s.fs[k].2) ∈ amap Fl.abs es := by rw [← hfs, crashSt_mid s keep hlt]; simp
        obtain ⟨q, hq, e⟩ := List.mem_map.1 hm
        have := hC.keys q hq
        rw [← (Prod.mk.inj e).1]; exact this
      obtain ⟨sB, hsB⟩ : ∃ sB : ByteArray, sB = ⟨⟨s.fs[k].1⟩⟩ := ⟨_, rfl⟩
      have hsL : sB.data.toList = s.fs[k].1 := by rw [hsB]
      have hsz : sB.size ≤ 281474976710656 := by rw [hsB]; exact hkey
      obtain ⟨ao2, cap2, g2, hv, _, hno2, hc1, hc2, _⟩ := lies_of_owned (hR.get s.fs[k].1)
      have hG := hC.get s.fs[k].1
      obtain ⟨c, hc⟩ : ∃ c, c = stay keep k s.fs[k].2 := ⟨_, rfl⟩
      have hfa : s.fs[k].2 = ((getF s.fs[k].1 es).bs, (getF s.fs[k].1 es).syn) := hatf.symm
      have hc0 : (getF s.fs[k].1 es).syn ≤ c ∧ c ≤ (getF s.fs[k].1 es).bs.length := by
        have := hG.2.1
        rw [hc, hfa]; unfold stay; split <;> simp only <;> omega
      have L := hC.look sB (by unfold maxLen; omega)
      have c0 := hC.c0
      have H1 : Hid (∀ W, Calls Try.prog 47 #[(getF s.fs[k].1 es).val, .int .i64 (c : Int)] W fun e w' => e = .returned (.agg #[.slice ao2 c cap2, .int .i64 ((getF s.fs[k].1 es).syn : Int)]) ∧ Touch (fun _ => False) W w') := by
        intro W
        have := first_raw ao2 (getF s.fs[k].1 es).bs.length cap2 (getF s.fs[k].1 es).syn c c W (by have := hG.2.2; omega) hG.2.2 hc1 (by unfold maxLen; omega) hG.2.1 hno2 (by unfold cutAt; omega)
        rw [show min (getF s.fs[k].1 es).syn c = (getF s.fs[k].1 es).syn from by omega] at this
        unfold Fl.val; rw [hv]; exact this
      have HLay : Hid (∀ W, Touch (fun _ => False) wr W → Calls Try.prog 36 #[.pointer (some ⟨d, 0, none⟩), .string sB, .agg #[.slice ao2 c cap2, .int .i64 (c : Int)]] W fun e w' => e = .returned (.tuple #[]) ∧ DPost d F (crashSt s keep (k + 1)) w1 w') := by
        intro W t
        have hlen : ((getF s.fs[k].1 es).bs.take c).length = c := by simp; omega
        have := lay_any (hC.touch t id id) sB hsz (by omega) ⟨.slice ao2 c cap2, (getF s.fs[k].1 es).bs.take c, c⟩ ⟨⟨ao2, cap2, by simp only [hlen]⟩, by simp only [hlen]; omega, by simp only [hlen]; have := hG.2.2; omega⟩
        refine this.mono ?_
        rintro e w3 ⟨rfl, hC3, t3⟩
        rw [hsL] at hC3
        refine ⟨rfl, DPost.join t1 hf1 (crash_step hC hR hfs hF hv hc0.2 hC3 ((t.mono fun _ _ h => h.elim).trans t3) ?_)⟩
        rw [hnext, hc]
      have hcs : c = stay keep k ((getF s.fs[k].1 es).bs, (getF s.fs[k].1 es).syn) := by rw [hc, hfa]
      rw [← hsB] at hncr
      rw [hsL] at L
      obtain ⟨_, hs1, hs2⟩ := hG
      clear hnc hnext hat hatf hri hfs hF hFl hC hR t1 hf1 hc hfa hsL hkey hsB
      generalize getF s.fs[k].1 es = f at *
      obtain ⟨v, bs, syn⟩ := f
      simp only at hv hs1 hs2 hc0 hcs hc1
      subst hv
      simp only [Fl.val] at L H1
      obtain ⟨hc00, hc01⟩ := hc0
      clear HFl HD HL HG HT HNC
      have hsl : (s.fs.length : Int) ≤ 1073741823 := by omega
      by_cases hkk : k < keep.length
      · have hkx : keep[k]? = some keep[k] := List.getElem?_eq_getElem hkk
        obtain ⟨off, rfl, hcell⟩ : ∃ off, ao = some ⟨g, off, none⟩ ∧ ∀ j (h : j < keep.length), wr.cell? ⟨g, off + j, none⟩ = some (.int .i64 keep[j]) := by
          rcases HLr.out with he | h
          · rw [he] at hkk; simp at hkk
          · exact h
        have hxc := hcell k hkk
        have hxa : ∀ o, (wr.alloc o).cell? ⟨g, off + k, none⟩ = some (.int .i64 keep[k]) := fun o => by rw [World.cell?_alloc_lt _ _ _ (World.block_lt_of_cell? _ _ hxc)]; exact hxc
        have hxr := HK.out keep[k] (List.getElem_mem hkk)
        have hcs2 : c = syn + min keep[k].toNat (bs.length - syn) := by rw [hcs]; unfold stay; rw [hkx]
        clear hcell hcs hkx HLr HK
        generalize keep[k] = x at *
        have hval : (syn : Int) + min (max x 0) ((bs.length : Int) - (syn : Int)) = (c : Int) := by omega
        clear hcs2
        go_wp2_with fail
        go_region
        go_wp2_with fail
        clear hval
        refine (H1.out _).mono ?_
        rintro e w2 ⟨rfl, hT2⟩
        have hB2 : w2.heap[wr.heap.size]? = some (.cells #[.slice ao2 bs.length cap2, .int .i64 (syn : Int)] 66 (0, 0)) := (hT2.block wr.heap.size (by first | exact lt_of_heap (heap_alloc_new _ _) | (simp)) id).trans (heap_alloc_new _ _)
        have k0 : w2.cell? ⟨wr.heap.size, 0, none⟩ = some (.slice ao2 bs.length cap2) := by rw [cell_of_block hB2]; rfl
        have k1 : w2.cell? ⟨wr.heap.size, 1, none⟩ = some (.int .i64 (syn : Int)) := by rw [cell_of_block hB2]; rfl
        have z0 : w2.frozen? ⟨wr.heap.size, 0, none⟩ = false := free_of_block hB2
        have z1 : w2.frozen? ⟨wr.heap.size, 1, none⟩ = false := free_of_block hB2
        have HT2 : Hid (Touch (fun _ => False) wr w2) := Touch.trans ((Touch.refl _ wr).alloc _).drew hT2
        have q1 : (((w2.setCell ⟨wr.heap.size, 0, none⟩ (.slice ao2 c cap2)).setCell ⟨wr.heap.size, 1, none⟩ (.int .i64 (syn : Int))).setCell ⟨wr.heap.size, 1, none⟩ (.int .i64 (c : Int))).cell? ⟨wr.heap.size, 1, none⟩ = some (.int .i64 (c : Int)) := by
          rw [cell_of_block (heap_setCell_same _ _ _ _ (heap_setCell_same _ _ _ _ (heap_setCell_same _ _ _ _ hB2)))]; rfl
        have HT3 : Hid (Touch (fun _ => False) wr (((w2.setCell ⟨wr.heap.size, 0, none⟩ (.slice ao2 c cap2)).setCell ⟨wr.heap.size, 1, none⟩ (.int .i64 (syn : Int))).setCell ⟨wr.heap.size, 1, none⟩ (.int .i64 (c : Int)))) := ((HT2.out.setCell _ _ (fun h => absurd h (Nat.lt_irrefl _))).setCell _ _ (fun h => absurd h (Nat.lt_irrefl _))).setCell _ _ (fun h => absurd h (Nat.lt_irrefl _))
        clear hT2 hB2 H1 HT2
        go_wp2_with fail
        refine (HLay.out _ HT3.out).mono ?_
        rintro e w3 ⟨rfl, hZ⟩
        have HZ : Hid (DPost d F (crashSt s keep (k + 1)) w1 w3) := hZ
        clear hZ HLay HT3 q1 k0 k1 z0 z1
        go_wp2_with fail
        go_roundw
        case rel => exact ⟨k + 1, by go_num, by omega, HZ.out⟩
        case measure => simp [intOf]; omega
      · have hcc : c = syn := by rw [hcs]; unfold stay; rw [List.getElem?_eq_none (by omega)]
        clear hcs
        subst hcc
        go_wp2_with fail
        refine (H1.out _).mono ?_
        rintro e w2 ⟨rfl, hT2⟩
        have hB2 : w2.heap[wr.heap.size]? = some (.cells #[.slice ao2 bs.length cap2, .int .i64 (c : Int)] 66 (0, 0)) := (hT2.block wr.heap.size (by first | exact lt_of_heap (heap_alloc_new _ _) | (simp)) id).trans (heap_alloc_new _ _)
        have k0 : w2.cell? ⟨wr.heap.size, 0, none⟩ = some (.slice ao2 bs.length cap2) := by rw [cell_of_block hB2]; rfl
        have k1 : w2.cell? ⟨wr.heap.size, 1, none⟩ = some (.int .i64 (c : Int)) := by rw [cell_of_block hB2]; rfl
        have z0 : w2.frozen? ⟨wr.heap.size, 0, none⟩ = false := free_of_block hB2
        have z1 : w2.frozen? ⟨wr.heap.size, 1, none⟩ = false := free_of_block hB2
        have HT2 : Hid (Touch (fun _ => False) wr w2) := Touch.trans ((Touch.refl _ wr).alloc _) hT2
        have q1 : (((w2.setCell ⟨wr.heap.size, 0, none⟩ (.slice ao2 c cap2)).setCell ⟨wr.heap.size, 1, none⟩ (.int .i64 (c : Int))).setCell ⟨wr.heap.size, 1, none⟩ (.int .i64 (c : Int))).cell? ⟨wr.heap.size, 1, none⟩ = some (.int .i64 (c : Int)) := by
          rw [cell_of_block (heap_setCell_same _ _ _ _ (heap_setCell_same _ _ _ _ (heap_setCell_same _ _ _ _ hB2)))]; rfl
        have HT3 : Hid (Touch (fun _ => False) wr (((w2.setCell ⟨wr.heap.size, 0, none⟩ (.slice ao2 c cap2)).setCell ⟨wr.heap.size, 1, none⟩ (.int .i64 (c : Int))).setCell ⟨wr.heap.size, 1, none⟩ (.int .i64 (c : Int)))) := ((HT2.out.setCell _ _ (fun h => absurd h (Nat.lt_irrefl _))).setCell _ _ (fun h => absurd h (Nat.lt_irrefl _))).setCell _ _ (fun h => absurd h (Nat.lt_irrefl _))
        clear hT2 hB2 H1 HT2
        go_wp2_with fail
        refine (HLay.out _ HT3.out).mono ?_
        rintro e w3 ⟨rfl, hZ⟩
        have HZ : Hid (DPost d F (crashSt s keep (k + 1)) w1 w3) := hZ
        clear hZ HLay HT3 q1 k0 k1 z0 z1
        go_wp2_with fail
        go_roundw
        case rel => exact ⟨k + 1, by go_num, by omega, HZ.out⟩
        case measure => simp [intOf]; omega

    · have hke : k = s.fs.length := by omega
      subst hke
      rw [crashSt_all s keep (Nat.le_refl _)] at hP
      obtain ⟨F1, ⟨m, es, hC, hR, hfs, hF, hFl⟩, t1, hf1⟩ := hP
      have c3 := hC.c3
      have f3 := hC.free 3
      have HQ : Hid (DPost d F (mCrash s keep) w (wr.setCell ⟨d, 3, none⟩ (.int .i64 (-1)))) := by
        refine DPost.pre HT.out (DPost.join t1 hf1 (set_post hC hR hF (s' := mCrash s keep) (hC.setPower (by decide) (by decide)) ((Touch.refl (fun i => i = d) wr).setCell _ _ fun _ => rfl) ?_))
        exact hfs
      clear hC hR hfs hF hFl t1 hf1
      go_wp2_with fail
      go_end0
      exact ⟨rfl, HQ.out⟩
end Go.Proofs.Ytfmpbkdmcgkeoaa
