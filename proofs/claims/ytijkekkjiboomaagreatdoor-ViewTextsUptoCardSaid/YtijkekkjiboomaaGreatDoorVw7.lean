/- Views: Clean's walk. -/
import Derived.Test.YtijkekkjiboomaaGreatDoorPart17
namespace Go.Proofs.YtijkekkjiboomaaGreatDoor
open Go.RowKit Go.Maps
set_option linter.unusedVariables false
set_option linter.unusedSimpArgs false
set_option maxRecDepth 100000

theorem MtR.of {w W : World} {r : Rw} {x : Rn} (h : MtR w r x) (b : Below w.heap.size w W) : MtR W r x := h.touch (below_touch b)
/-- What is so behind i rounds. -/
abbrev ClI (w : World) (L : List Rn) (i : Nat) (v : Value) (W : World) : Prop := Co w (outP L i) (lastTx (outP L i)) v W
set_option maxHeartbeats 16000000 in
theorem clean_any {w : World} {v : Value} {L : List Rn} (hv : SlRn w v L) (ok : OkL L) (ht : tot L ≤ 1048576) (hT : TabsU w) :
    Calls Tryz.prog 18 #[v] w fun e w' => ∃ v', e = .returned v' ∧ SlRn w' v' (cleanP L) ∧ Touch (fun _ => False) w w' := by
  obtain ⟨raw, hr, hm⟩ := hv
  have hrl := hm.len
  obtain ⟨ao, cap, rfl, a1, a2, a3⟩ := hr.shape
  have HA : Hid (raw ≠ [] → _) := hr.at
  have HM : Hid (∀ j (h1 : j < raw.length) (h2 : j < L.length), MtR w raw[j] L[j]) := hm.get
  have HOK : Hid (OkL L) := ok
  have HTT : Hid (TabsU w) := hT
  have HTo : Hid (tot L ≤ 1048576) := ht
  have hll : L.length ≤ 1048576 := Nat.le_trans (tot_len L) ht
  have HRL : Hid (raw.length = L.length) := hrl
  obtain ⟨w0, hw0⟩ : ∃ w0, Hid (w0 = w.alloc (.cells #[.pointer none, .slice none 0 0] 60)) := ⟨_, Eq.refl _⟩
  have H0 : Hid (ClI w L 0 (.slice none 0 0) w0) := by
    have e : outP L 0 = [] := rfl
    show Co _ _ _ _ _
    rw [e, hw0.out]
    have t := (Touch.refl (fun _ => False) w).alloc (.cells #[.pointer none, .slice none 0 0] 60)
    exact ⟨t.below (Nat.le_refl _) (fun _ _ => id), ⟨[], OutW.nil _ _, trivial⟩, BldF.new w⟩
  obtain ⟨bb, hbb⟩ : ∃ bb, Hid (bb = w.heap.size) := ⟨_, Eq.refl _⟩
  clear hr hm ok hT ht hrl a1 a2 a3
  rw [HRL.out]
  go_enter Tryz.func18, Tryz.ntmps18
  go_wp2_with fail
  rw [← hw0.out, ← hbb.out]
  clear hw0
  go_loopg [3, 9] L.length (fun gk s3 s9 wr => ∃ (i : Nat) (ao : Option Addr) (n c : Nat), i + gk = L.length ∧ s3 = .slice ao n c ∧ s9 = .int .i64 (i : Int) ∧ Hid (ClI w L i (.slice ao n c) wr))
  case atStart => exact ⟨0, none, 0, 0, by omega, rfl, rfl, H0.out⟩
  case round =>
    obtain ⟨i, so, sn, sc, hig, rfl, rfl, HI⟩ := hrel
    by_cases hil : i < L.length
    · have hil2 : i < raw.length := by rw [HRL.out]; exact hil
      obtain ⟨b, o, rfl, -, hca⟩ := HA.out (by intro e; subst e; simp at hil2)
      obtain ⟨x0, x1, x2, x3, x4, x5, x6⟩ := hca wr (below_touch HI.out.below) i hil2
      have HMi : Hid (MtR w raw[i] L[i]) := HM.out i hil2 hil
      have HSu : Hid (outP L (i + 1) = clP (outP L i) L[i]) := outP_succ hil
      have hmem := List.getElem_mem hil
      have HX : Hid (L[i].Ok ∧ L[i].Dbl) := HOK.out _ hmem
      have hsz : L[i].tx.size ≤ 1048576 := tot_small HTo.out _ hmem
      have hml : L[i].ml.length ≤ 1048576 := by have := tot_mem hmem; have := HTo.out; omega
      have HO : Hid (OkL (outP L i)) := outP_ok HOK.out i
      have hto : tot (outP L i) ≤ 1048576 := Nat.le_trans (Nat.le_trans (outP_tot L i) (tot_take L i)) HTo.out
      have hi1 : (0 : Int) ≤ (i : Int) := by omega
      have hi2 : (i : Int) < (L.length : Int) := by omega
      have hbx := heap_alloc_new wr (rwO raw[i])
      have HV : Hid (Co w (outP L i) (lastTx (outP L i)) (.slice so sn sc) (wr.alloc (rwO raw[i])) ∧ (wr.alloc (rwO raw[i])).heap[wr.heap.size]? = some (rwO raw[i]) ∧ (Value.slice so sn sc).ownBlock ≠ some wr.heap.size ∧ w.heap.size ≤ wr.heap.size) := ⟨HI.out.touch ((Touch.refl _ _).alloc _), hbx, fun e => Nat.lt_irrefl _ (HI.out.lt e), HI.out.below.size⟩
      clear hca HA HM HOK hbx HI hmem
      generalize outP L i = out at *
      generalize raw[i] = r at *
      generalize L[i] = x at *
      have HLen : Hid (∀ W, Touch (fun _ => False) w W → Calls Tryz.prog 43 #[r.val] W fun e w' => e = .returned (.int .i64 (r.len : Int)) ∧ Touch (fun _ => False) W w') := fun W t => vlen_any r (by rw [HMi.out.tx]; exact hsz) W (HTT.out.keep t)
      have HGo : Hid (∀ W v, Touch (fun _ => False) w W → SlRn W v out → Calls Tryz.prog 44 #[v, r.val] W fun e w' => e = .returned (.bool (goesV out x)) ∧ Touch (fun _ => False) W w') := fun W v t hs => goesOn_any hs (HMi.out.touch t) (fun a ha => (HO.out a ha).2) HX.out.2 (Nat.le_trans (tot_len _) hto)
      have HBa : Hid (∀ W, Touch (fun _ => False) w W → Calls Tryz.prog 45 #[r.val] W fun e w' => ∃ s : Sw, e = .returned (bareW r.em (bareV r) s).val ∧ NewY W w' s.val (x.ml.map mkN)) := fun W t => bare_any (HMi.out.touch t) hml
      have HLx : Hid (r.len = x.len) := HMi.out.len
      obtain ⟨bv, hbv⟩ : ∃ bv, Hid (bv = bareV r) := ⟨_, Eq.refl _⟩
      have HEm : Hid (r.em = x.em ∧ r.tx = x.tx ∧ bv = (bare0 x).v) := ⟨HMi.out.em, HMi.out.tx, by
        have h1 := HMi.out.em
        have h2 := HMi.out.v
        rw [hbv.out]
        unfold bareV bare0
        simp only [h1, h2]⟩
      rw [← hbv.out] at HBa
      clear HMi HX hbv
      obtain ⟨bk, bn, bf, bs⟩ := bv
      obtain ⟨rtx, rem, rvk, rvn, rvf, rvs, ⟨rma, rmn, rmc⟩⟩ := r
      simp only at x0 x1 x2 x3 x4 x5 x6 HV HLen HGo HBa HEm
      generalize hrn : Rw.len ⟨rtx, rem, rvk, rvn, rvf, rvs, ⟨rma, rmn, rmc⟩⟩ = rn at *
      clear hrn
      obtain ⟨p0, p1, p2, p3, p4, p5, p6⟩ := rwO_cells HV.out.2.1
      have hst := run_store_f64 Tryz.prog
      clear hil2 HRL
      go_wp2_with fail
      clear hst
      refine (HLen.out _ (below_touch HV.out.1.below)).mono ?_
      rintro e W1 ⟨rfl, t1⟩
      clear x0 x1 x2 x3 x4 x5 x6 p0 p1 p2 p3 p4 p5 p6
      obtain ⟨k0, hk0⟩ : ∃ k0, Hid (k0 = wr.heap.size) := ⟨_, Eq.refl _⟩
      rw [← hk0.out] at HV ⊢
      have HV1 : Hid (Co w out (lastTx out) (.slice so sn sc) W1 ∧ W1.heap[k0]? = some (rwO ⟨rtx, rem, rvk, rvn, rvf, rvs, ⟨rma, rmn, rmc⟩⟩) ∧ (Value.slice so sn sc).ownBlock ≠ some k0 ∧ w.heap.size ≤ k0) := ⟨HV.out.1.touch t1, hkY t1 HV.out.2.1, HV.out.2.2⟩
      clear t1 HV HLen
      by_cases hz : rn = 0
      · have HE : Hid (clP out x = out) := by show _ = _; unfold clP; rw [if_pos (by rw [← HLx.out]; exact hz)]
        have HF : Hid (ClI w L (i + 1) (.slice so sn sc) W1) := by show Co _ _ _ _ _; rw [HSu.out, HE.out]; exact HV1.out.1
        subst hz
        clear HGo HBa HE HSu hsz hml hto
        go_wp2_with fail
        go_roundg (L.length - (i + 1))
        case measure => omega
        case rel => exact ⟨i + 1, so, sn, sc, by omega, rfl, by go_num, HF.out⟩
      · have hzi : ((rn : Int) == 0) = false := by simp; omega
        obtain ⟨init, last, hmid, hme, hmt⟩ := mid_step out x (by rw [← HLx.out]; exact hz)
        have HMid : Hid (midL out x = init ++ [last] ∧ (x.em = true → clP out x = midL out x) ∧ (x.em = false → clP out x = init ++ [last.more x.tx])) := ⟨hmid, hme, hmt⟩
        have HMT : Hid (tot (midL out x) ≤ 2500000) := by
          have h1 : tot (midL out x) ≤ tot out + (x.ml.length + 1) := by
            unfold midL
            split
            · omega
            · rw [tot_append, tot_cons]
              have e1 : (bare0 x).tx.size = 0 := rfl
              have e2 : (bare0 x).ml.length = x.ml.length := by unfold bare0; simp
              have e3 : tot [] = 0 := rfl
              omega
          show _ ≤ _
          omega
        have HNe : Hid (x.em = false → x.tx.data.toList ≠ []) := fun he h => by
          have h1 := HLx.out
          unfold Rn.len at h1
          rw [if_neg (by rw [he]; simp)] at h1
          have h2 : x.rs = [] := by show rsOf x.tx.data.toList = []; rw [h]; rfl
          rw [h2] at h1
          exact hz h1
        clear hmid hme hmt hz HLx
        obtain ⟨p0, p1, p2, p3, p4, p5, p6⟩ := rwO_cells HV1.out.2.1
        have hst := run_store_f64 Tryz.prog
        go_wp2_with fail
        refine (HGo.out _ _ (below_touch HV1.out.1.below) HV1.out.1.sl).mono ?_
        rintro e W2 ⟨rfl, t2⟩
        have HV2 : Hid (Co w out (lastTx out) (.slice so sn sc) W2 ∧ W2.heap[k0]? = some (rwO ⟨rtx, rem, rvk, rvn, rvf, rvs, ⟨rma, rmn, rmc⟩⟩) ∧ (Value.slice so sn sc).ownBlock ≠ some k0 ∧ w.heap.size ≤ k0) := ⟨HV1.out.1.touch t2, hkY t2 HV1.out.2.1, HV1.out.2.2⟩
        clear p0 p1 p2 p3 p4 p5 p6 t2 HV1 HGo hst
        obtain ⟨p0, p1, p2, p3, p4, p5, p6⟩ := rwO_cells HV2.out.2.1
        go_upto_if 19 with fail
        go_cut [3] (fun t wx => ∃ so sn sc, t = .slice so sn sc ∧ Hid (Co w (midL out x) (lastTx (midL out x)) (.slice so sn sc) wx ∧ wx.heap[k0]? = some (rwO ⟨rtx, rem, rvk, rvn, rvf, rvs, ⟨rma, rmn, rmc⟩⟩)))
        case first =>
          cases hg : goesV out x with
          | true =>
            have hm : Hid (midL out x = out) := by show _ = _; unfold midL; rw [if_pos hg]
            go_wp2_with fail
            go_meet
            case rel => exact ⟨so, sn, sc, rfl, by show _ ∧ _; rw [hm.out]; exact ⟨HV2.out.1, HV2.out.2.1⟩⟩
          | false =>
            have hm : Hid (midL out x = out ++ [bare0 x]) := by show _ = _; unfold midL; rw [if_neg (by rw [hg]; simp)]
            go_wp2_with fail
            refine (HBa.out _ (below_touch HV2.out.1.below)).mono ?_
            rintro e W3 ⟨⟨sa, sm, sd⟩, rfl, hN⟩
            have hC3 := HV2.out.1.touch hN.touch
            have hMO : MtO w.heap.size W3 (bareW rem ⟨bk, bn, bf, bs⟩ ⟨sa, sm, sd⟩) (bare0 x) := ⟨rfl, HEm.out.1, HEm.out.2.2, ⟨hN.owns, fun k hk => Nat.le_trans HV2.out.1.below.size (hN.fresh k hk)⟩⟩
            obtain ⟨g, n4, c4, W4, hrun, hn4, hC4, hold⟩ := hC3.app _ _ hMO (Nat.le_trans (tot_len _) hto)
            have hb3 := hkY hN.touch HV2.out.2.1
            have hb4 : W4.heap[k0]? = some (rwO ⟨rtx, rem, rvk, rvn, rvf, rvs, ⟨rma, rmn, rmc⟩⟩) := (hold k0 HV2.out.2.2.2 (lt_of_heap hb3) HV2.out.2.2.1).trans hb3
            have HR : Hid (Calls Tryz.prog 46 #[.pointer (some ⟨bb, 0, none⟩)] W4 fun e w' => e = .returned (.tuple #[]) ∧ BldF w.heap.size w.heap.size [] w' ∧ BKeep w.heap.size w.heap.size W4 w') := by
              rw [hbb.out]
              exact b_reset _ _ _ _ hC4.bld
            have H4 : Hid (Co w (out ++ [bare0 x]) (lastTx out) (.slice (some ⟨g, 0, none⟩) n4 c4) W4 ∧ W4.heap[k0]? = some (rwO ⟨rtx, rem, rvk, rvn, rvf, rvs, ⟨rma, rmn, rmc⟩⟩)) := ⟨hC4, hb4⟩
            clear hC3 hMO hn4 hC4 hold hb3 hb4 hN HBa p0 p1 p2 p3 p4 p5 p6
            simp only [bareW] at hrun
            go_wp2_with (at_builtin; refine wpList_append_runW rfl _ _ rfl _ _ _ rfl rfl hrun ?_)
            clear hrun
            go_wp2_with fail
            refine HR.out.mono ?_
            rintro e W5 ⟨rfl, hB5, hK5⟩
            have H5 : Hid (Co w (midL out x) (lastTx (midL out x)) (.slice (some ⟨g, 0, none⟩) n4 c4) W5 ∧ W5.heap[k0]? = some (rwO ⟨rtx, rem, rvk, rvn, rvf, rvs, ⟨rma, rmn, rmc⟩⟩)) := by
              show _ ∧ _
              rw [hm.out, lastTx_snoc]
              exact ⟨H4.out.1.keepB hK5 hB5, keepB_cells (by decide) (by decide) H4.out.2 H4.out.1.bld hK5⟩
            clear hB5 hK5 H4 HR
            go_wp2_with fail
            go_meet
            case rel => exact ⟨_, _, _, rfl, H5.out⟩
        case rest =>
          obtain ⟨so2, sn2, sc2, rfl, HM5⟩ := hcut
          obtain ⟨V, hV⟩ : ∃ V, V = wc := ⟨_, rfl⟩
          subst hV
          clear HV2 HBa p0 p1 p2 p3 p4 p5 p6 hml hto HO
          obtain ⟨p0, p1, -, -, -, -, -⟩ := rwO_cells HM5.out.2
          cases rem with
          | true =>
            have HF : Hid (ClI w L (i + 1) (.slice so2 sn2 sc2) V) := by show Co _ _ _ _ _; rw [HSu.out, HMid.out.2.1 HEm.out.1.symm]; exact HM5.out.1
            clear HM5 HSu HMid HMT HEm HTo HTT hsz
            go_wp2_with fail
            go_roundg (L.length - (i + 1))
            case measure => omega
            case rel => exact ⟨i + 1, so2, sn2, sc2, by omega, rfl, by go_num, HF.out⟩
          | false =>
            have hne : rtx.data.toList ≠ [] := by rw [HEm.out.2.1]; exact HNe.out HEm.out.1.symm
            have hsz2 : rtx.size ≤ 1048576 := by rw [HEm.out.2.1]; exact hsz
            obtain ⟨ao3, c3, e3, hh3⟩ := HM5.out.1.shape
            have hml2 : (midL out x).length = init.length + 1 := by rw [HMid.out.1]; simp
            obtain ⟨g, e4, -, -⟩ := hh3 (by omega)
            rw [e4, hml2] at e3
            simp only [Value.slice.injEq] at e3
            obtain ⟨rfl, rfl, rfl⟩ := e3
            have hil9 : init.length ≤ 3000000 := by
              have h1 := tot_len (midL out x)
              have h2 := HMT.out
              omega
            have hlx : (lastTx (midL out x)).length ≤ 3000000 := by
              have h1 := lastTx_len (midL out x)
              have h2 := HMT.out
              omega
            have HMM : Hid (Co w (init ++ [last]) (lastTx (midL out x)) (.slice (some ⟨g, 0, none⟩) (init.length + 1) sc2) V ∧ clP out x = init ++ [last.more rtx] ∧ lastTx (midL out x) = last.tx.data.toList) := by
              have h1 := HM5.out.1
              have h2 := HMid.out.2.2 HEm.out.1.symm
              rw [HMid.out.1] at h1 ⊢
              rw [HEm.out.2.1]
              exact ⟨h1, h2, lastTx_snoc _ _⟩
            have HW : Hid (Calls Tryz.prog 40 #[.pointer (some ⟨bb, 0, none⟩), .string rtx] V fun e w' => e = .returned (.tuple #[.int .i64 rtx.size, .nilIface]) ∧ BldF w.heap.size w.heap.size (lastTx (midL out x) ++ rtx.data.toList) w' ∧ BKeep w.heap.size w.heap.size V w') := by
              rw [hbb.out]
              exact b_writeStr _ _ _ _ _ HM5.out.1.bld (by omega) HM5.out.1.below.size
            clear HM5 HMid HMT HEm HTo HTT hsz hlx hh3 e4 hml2 HNe
            generalize lastTx (midL out x) = bs0 at *
            have i5 : IntKind.i64.wrap ((init.length : Int) + 1 - 1) = (init.length : Int) := by rw [Int.add_sub_cancel, IntKind.wrap_i64]; omega
            have i9 : IntKind.i64.wrap (init.length : Int) = (init.length : Int) := by rw [IntKind.wrap_i64]; omega
            have i6 : (0 : Int) ≤ (init.length : Int) := by omega
            have i7 : (init.length : Int) < (init.length : Int) + 1 := by omega
            go_wp2_with fail
            refine HW.out.mono ?_
            rintro e W6 ⟨rfl, hB6, hK6⟩
            have H6 : Hid (Co w (init ++ [last]) (bs0 ++ rtx.data.toList) (.slice (some ⟨g, 0, none⟩) (init.length + 1) sc2) W6) := HMM.out.1.keepB hK6 hB6
            have HSt : Hid (Calls Tryz.prog 37 #[.pointer (some ⟨bb, 0, none⟩)] W6 fun e w' => e = .returned (.string ⟨(bs0 ++ rtx.data.toList).toArray⟩) ∧ BldF w.heap.size w.heap.size (bs0 ++ rtx.data.toList) w' ∧ BKeep w.heap.size w.heap.size W6 w') := by
              rw [hbb.out]
              exact b_str _ _ _ _ H6.out.bld (by simp [hne])
            clear hB6 hK6 HW p0 p1 hne
            go_wp2_with fail
            refine HSt.out.mono ?_
            rintro e W7 ⟨rfl, hB7, hK7⟩
            obtain ⟨⟨old, q1⟩, q2, q3⟩ := (H6.out.keepB hK7 hB7).text ⟨(bs0 ++ rtx.data.toList).toArray⟩
            have HF : Hid (ClI w L (i + 1) (.slice (some ⟨g, 0, none⟩) (init.length + 1) sc2) (W7.setCell ⟨g, init.length * 7, none⟩ (.string ⟨(bs0 ++ rtx.data.toList).toArray⟩))) := by
              show Co _ _ _ _ _
              rw [HSu.out, HMM.out.2.1, lastTx_snoc]
              have e9 : (⟨(bs0 ++ rtx.data.toList).toArray⟩ : ByteArray) = last.tx ++ rtx := by rw [HMM.out.2.2]; exact bytes_app _ _
              have e10 : (last.more rtx).tx.data.toList = bs0 ++ rtx.data.toList := by show (last.tx ++ rtx).data.toList = _; rw [append_data, HMM.out.2.2]
              rw [e10]
              rw [e9] at q3
              exact e9 ▸ q3
            clear q3 H6 HSt hB7 hK7 HMM HSu
            go_wp2_with fail
            go_roundg (L.length - (i + 1))
            case measure => omega
            case rel => exact ⟨i + 1, some ⟨g, 0, none⟩, init.length + 1, sc2, by omega, rfl, by go_num, HF.out⟩
    · have : i = L.length := by omega
      subst this
      have HF : Hid (SlRn wr (.slice so sn sc) (cleanP L) ∧ Touch (fun _ => False) w wr) := by
        have h1 := HI.out.sl
        have e : outP L L.length = cleanP L := by unfold outP cleanP; rw [List.take_length]
        rw [e] at h1
        exact ⟨h1, below_touch HI.out.below⟩
      clear HI H0 HA HM HOK HTT HTo HRL hll hig
      go_wp2_with fail
      go_ret
      exact ⟨_, rfl, HF.out⟩
end Go.Proofs.YtijkekkjiboomaaGreatDoor
