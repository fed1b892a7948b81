/- Views: Cut, Len. -/
import Derived.Test.YtijkekkjiboomaaGreatDoorVw7
namespace Go.Proofs.YtijkekkjiboomaaGreatDoor
open Go.RowKit Go.Maps
set_option linter.unusedVariables false
set_option linter.unusedSimpArgs false
set_option maxRecDepth 100000

/-- A list of runs of our own, whose marks lie in w. -/
structure Cu (w : World) (out : List Rn) (v : Value) (W : World) : Prop where
  t : Touch (fun _ => False) w W
  row : ∃ raw, OutW w.heap.size W v raw ∧ AllMt w raw out
theorem Cu.touch {w W W' : World} {out : List Rn} {v : Value} (h : Cu w out v W) (t : Touch (fun _ => False) W W') : Cu w out v W' := by
  obtain ⟨raw, h1, h2⟩ := h.row
  exact ⟨h.t.trans t, raw, h1.touch t, h2⟩
theorem Cu.sl {w W : World} {out : List Rn} {v : Value} (h : Cu w out v W) : SlRn W v out := by
  obtain ⟨raw, h1, h2⟩ := h.row
  exact ⟨raw, h1.sl, h2.touch h.t⟩
theorem Cu.app {w W : World} {out : List Rn} {v : Value} (h : Cu w out v W) (r : Rw) (x : Rn) (hr : MtR w r x) (hlen : out.length ≤ 1048576) :
    ∃ ao n c W', (Builtin.append_ #[22, 22] 22 #[v, .slice (some ⟨W.heap.size, 0, none⟩) 1 1]).run Tryz.prog (W.alloc (rwO r)) = .ok (.slice ao n c) W' ∧ Cu w (out ++ [x]) (.slice ao n c) W' := by
  obtain ⟨raw, h1, h2⟩ := h.row
  obtain ⟨v', W', hrun, hO, hold, hoth, hbel, hsz⟩ := h1.app1 h.t.size r (by rw [h2.len]; omega)
  obtain ⟨ao, cap, e, -⟩ := hO.shape
  exact ⟨ao, _, cap, W', by rw [hrun, e], below_touch ((h.t.below (Nat.le_refl _) fun _ _ => id).trans (hbel w.heap.size (Nat.le_refl _))), raw ++ [r], by rw [← e]; exact hO, h2.snoc hr⟩
theorem piecesP_tot (fr til : Int) : ∀ (L : List Rn) (ah : Int), tot (piecesP fr til ah L) ≤ tot L
  | [], _ => Nat.le_refl _
  | r :: L, ah => by
    have ih := piecesP_tot fr til L (ah + r.len)
    unfold piecesP
    split
    · exact Nat.zero_le _
    · have h1 : tot [pieceP r (fr - ah) (til - ah)] ≤ r.tx.size + r.ml.length + 1 := by
        have e : tot [] = 0 := rfl
        rw [tot_cons]
        unfold pieceP
        split
        · omega
        · have h3 : (cutOf r.tx.data.toList (fr - ah) (til - ah)).size ≤ r.tx.size := by
            rw [← (cut_bytes r.tx (fr - ah) (til - ah)).2.2, ByteArray.size_extract]
            omega
          simp only
          omega
      rw [tot_append, tot_cons]
      split
      · omega
      · have e : tot [] = 0 := rfl
        omega
theorem cutP_tot (L : List Rn) (fr til : Int) : tot (cutP L fr til) ≤ tot L := Nat.le_trans (cleanP_tot _) (piecesP_tot _ _ _ _)
set_option maxHeartbeats 16000000 in
theorem cut_any {w : World} {v : Value} {L : List Rn} (hv : SlRn w v L) (ok : OkL L) (ht : tot L ≤ 1048576) (hT : TabsU w) (fr til : Int) (hf : -9223372036854775808 ≤ fr ∧ fr ≤ 9223372036854775807) (htl : -9223372036854775808 ≤ til ∧ til ≤ 9223372036854775807) :
    Calls Tryz.prog 21 #[v, .int .i64 fr, .int .i64 til] w fun e w' => ∃ v', e = .returned v' ∧ SlRn w' v' (cutP L fr til) ∧ Touch (fun _ => False) w w' := by
  obtain ⟨raw, hr, hm⟩ := hv
  have hrl := hm.len
  obtain ⟨ao, cap, rfl, a1, a2, a3⟩ := hr.shape
  have HA : Hid (raw ≠ [] → _) := hr.at
  have HM : Hid (∀ j (h1 : j < raw.length) (h2 : j < L.length), MtR w raw[j] L[j]) := hm.get
  have HTo : Hid (tot L ≤ 1048576) := ht
  have hll : L.length ≤ 1048576 := Nat.le_trans (tot_len L) ht
  have HRL : Hid (raw.length = L.length) := hrl
  have HTT : Hid (TabsU w) := hT
  obtain ⟨f, hff⟩ : ∃ f, Hid (f = max fr 0) := ⟨_, Eq.refl _⟩
  have hf0 : 0 ≤ f := by rw [hff.out]; omega
  have hf1 : f ≤ 9223372036854775807 := by rw [hff.out]; omega
  have HP : Hid (cutP L fr til = cleanP (piecesP f til 0 L)) := by rw [hff.out]; rfl
  have HLT : Hid (∀ j, lenL (L.take j) ≤ 1048576 * 1048576 ∧ ∀ h : j < L.length, lenL (L.take (j + 1)) = lenL (L.take j) + L[j].len) := fun j => ⟨by
    have := lenL_le (L := L.take j) fun x hx => tot_small ht x (List.mem_of_mem_take hx)
    rw [List.length_take] at this
    have : min j L.length ≤ 1048576 := by omega
    omega, fun h => lenL_take_succ h⟩
  have HCl : Hid (∀ W v, Touch (fun _ => False) w W → SlRn W v (piecesP f til 0 L) → Calls Tryz.prog 18 #[v] W fun e w' => ∃ v', e = .returned v' ∧ SlRn w' v' (cleanP (piecesP f til 0 L)) ∧ Touch (fun _ => False) W w') := fun W v t hs => clean_any hs (piecesP_ok ok) (Nat.le_trans (piecesP_tot _ _ _ _) ht) (hT.keep t)
  rw [HP.out]
  clear hr hm ok hT hrl a1 a2 a3 HP
  rw [HRL.out]
  generalize hPR : piecesP f til 0 L = P at *
  have HPR : Hid (piecesP f til 0 L = P) := hPR
  clear hPR
  go_enter Tryz.func21, Tryz.ntmps21
  go_upto_region 2 with fail
  rw [← hff.out]
  clear hff hf
  go_wp2_with fail
  go_loopg [7, 8, 16] L.length (fun gk s7 s8 s16 wr => ∃ (i : Nat) (ao : Option Addr) (n c : Nat) (out : List Rn), i + gk = L.length ∧ s7 = .slice ao n c ∧ s8 = .int .i64 (lenL (L.take i) : Int) ∧ s16 = .int .i64 (i : Int) ∧ Hid (Cu w out (.slice ao n c) wr ∧ out ++ piecesP f til (lenL (L.take i) : Int) (L.drop i) = P ∧ out.length ≤ i))
  case atStart => exact ⟨0, none, 0, 0, [], by omega, rfl, rfl, rfl, ⟨Touch.refl _ _, [], OutW.nil _ _, trivial⟩, HPR.out, Nat.le_refl _⟩
  case round =>
    obtain ⟨i, so, sn, sc, out, hig, rfl, rfl, rfl, HI⟩ := hrel
    by_cases hil : i < L.length
    · have hil2 : i < raw.length := by rw [HRL.out]; exact hil
      obtain ⟨b, o, rfl, -, hca⟩ := HA.out (by intro e; subst e; simp at hil2)
      obtain ⟨x0, x1, x2, x3, x4, x5, x6⟩ := hca wr HI.out.1.t i hil2
      have HMi : Hid (MtR w raw[i] L[i]) := HM.out i hil2 hil
      have hmem := List.getElem_mem hil
      have hsz : L[i].tx.size ≤ 1048576 := tot_small HTo.out _ hmem
      have hi1 : (0 : Int) ≤ (i : Int) := by omega
      have hi2 : (i : Int) < (L.length : Int) := by omega
      have hlen : L[i].len ≤ 1048576 := rn_len_le _ hsz
      have HDr : Hid (L.drop i = L[i] :: L.drop (i + 1)) := List.drop_eq_getElem_cons hil
      have HLs : Hid (lenL (L.take (i + 1)) = lenL (L.take i) + L[i].len) := (HLT.out i).2 hil
      have hah := (HLT.out i).1
      have hbx := heap_alloc_new wr (rwO raw[i])
      have HV : Hid (Cu w out (.slice so sn sc) (wr.alloc (rwO raw[i])) ∧ (wr.alloc (rwO raw[i])).heap[wr.heap.size]? = some (rwO raw[i])) := ⟨HI.out.1.touch ((Touch.refl _ _).alloc _), hbx⟩
      have HI2 : Hid (out ++ piecesP f til (lenL (L.take i) : Int) (L.drop i) = P ∧ out.length ≤ i) := HI.out.2
      clear hca HA HM hbx HI hmem HLT HPR
      generalize raw[i] = r at *
      generalize L[i] = x at *
      generalize lenL (L.take i) = ah at *
      have HLen : Hid (∀ W, Touch (fun _ => False) w W → Calls Tryz.prog 43 #[r.val] W fun e w' => e = .returned (.int .i64 (x.len : Int)) ∧ Touch (fun _ => False) W w') := fun W t => by
        rw [← HMi.out.len]
        exact vlen_any r (by rw [HMi.out.tx]; exact hsz) W (HTT.out.keep t)
      have HPi : Hid (∀ W (p q : Int), Touch (fun _ => False) w W → Calls Tryz.prog 49 #[r.val, .int .i64 p, .int .i64 q] W fun e w' => e = .returned (pieceW r p q).val ∧ Touch (fun _ => False) W w') := fun W p q t => piece_any r (by rw [HMi.out.tx]; exact hsz) p q W (HTT.out.keep t)
      have HMP : Hid (∀ p q, MtR w (pieceW r p q) (pieceP x p q)) := fun p q => HMi.out.piece p q
      have HPW : Hid (∀ p q, pieceW r p q = ⟨if r.em = true then r.tx else cutOf r.tx.data.toList p q, r.em, r.vk, r.vn, r.vf, r.vs, r.ms⟩) := fun p q => Eq.refl _
      clear HMi
      obtain ⟨rtx, rem, rvk, rvn, rvf, rvs, ⟨rma, rmn, rmc⟩⟩ := r
      simp only at x0 x1 x2 x3 x4 x5 x6 HV HLen HPi HMP HPW
      obtain ⟨p0, p1, p2, p3, p4, p5, p6⟩ := rwO_cells HV.out.2
      have hst := run_store_f64 Tryz.prog
      clear hil2 HRL
      by_cases hbr : til ≤ (ah : Int)
      · have HF : Hid (SlRn (wr.alloc (rwO ⟨rtx, rem, rvk, rvn, rvf, rvs, ⟨rma, rmn, rmc⟩⟩)) (.slice so sn sc) P) := by
          have h1 := HV.out.1.sl
          have h2 := HI2.out.1
          rw [HDr.out] at h2
          unfold piecesP at h2
          rw [if_pos hbr, List.append_nil] at h2
          rwa [h2] at h1
        have HF1 := HCl.out _ _ HV.out.1.t HF.out
        have HF2 : Hid (Calls Tryz.prog 18 #[.slice so sn sc] _ _) := HF1
        have HTV : Hid (Touch (fun _ => False) w (wr.alloc (rwO ⟨rtx, rem, rvk, rvn, rvf, rvs, ⟨rma, rmn, rmc⟩⟩))) := HV.out.1.t
        clear HLen HPi HMP HPW HF HF1 HCl HI2 HDr HLs HTo HTT
        go_wp2_with fail
        clear x0 x1 x2 x3 x4 x5 x6 p0 p1 p2 p3 p4 p5 p6 hst
        refine HF2.out.mono ?_
        rintro e W3 ⟨v3, rfl, h3, t3⟩
        have HR : Hid (SlRn W3 v3 (cleanP P) ∧ Touch (fun _ => False) w W3) := ⟨h3, HTV.out.trans t3⟩
        obtain ⟨ao3, c3, e3, -⟩ := h3.shape
        clear h3 t3 HF2 HTV HV
        subst e3
        go_wp2_with fail
        go_ret
        exact ⟨_, rfl, HR.out⟩
      · go_wp2_with fail
        clear hst
        refine (HLen.out _ HV.out.1.t).mono ?_
        rintro e W1 ⟨rfl, t1⟩
        clear x0 x1 x2 x3 x4 x5 x6 p0 p1 p2 p3 p4 p5 p6
        obtain ⟨k0, hk0⟩ : ∃ k0, Hid (k0 = wr.heap.size) := ⟨_, Eq.refl _⟩
        rw [← hk0.out] at HV ⊢
        have HV1 : Hid (Cu w out (.slice so sn sc) W1 ∧ W1.heap[k0]? = some (rwO ⟨rtx, rem, rvk, rvn, rvf, rvs, ⟨rma, rmn, rmc⟩⟩)) := ⟨HV.out.1.touch t1, hkY t1 HV.out.2⟩
        clear t1 HV HLen hk0
        obtain ⟨p0, p1, p2, p3, p4, p5, p6⟩ := rwO_cells HV1.out.2
        have hst := run_store_f64 Tryz.prog
        have HS2 : Hid (out ++ ((if f < (ah : Int) + (x.len : Int) then [pieceP x (f - ah) (til - ah)] else []) ++ piecesP f til ((ah : Int) + x.len) (L.drop (i + 1))) = P) := by
          have h2 := HI2.out.1
          rw [HDr.out] at h2
          unfold piecesP at h2
          rwa [if_neg (by omega)] at h2
        have hlo : out.length ≤ 1048576 := Nat.le_trans HI2.out.2 (by omega)
        have hlo2 : Hid (out.length ≤ i) := HI2.out.2
        clear HDr HI2
        generalize x.len = n at *
        by_cases hbe : f < (ah : Int) + (n : Int)
        · have HS3 : Hid ((out ++ [pieceP x (f - ah) (til - ah)]) ++ piecesP f til ((lenL (L.take (i + 1)) : Nat) : Int) (L.drop (i + 1)) = P) := by
            have h2 := HS2.out
            rw [if_pos hbe] at h2
            show _ = _
            rw [HLs.out, Int.natCast_add, List.append_assoc]; exact h2
          clear HS2
          have hw1 : IntKind.i64.wrap (f - (ah : Int)) = f - (ah : Int) := by rw [IntKind.wrap_i64]; omega
          have hw2 : IntKind.i64.wrap (til - (ah : Int)) = til - (ah : Int) := by rw [IntKind.wrap_i64]; omega
          go_wp2_with fail
          refine (HPi.out _ _ _ HV1.out.1.t).mono ?_
          rintro e W2 ⟨rfl, t2⟩
          obtain ⟨so2, sn2, sc2, W3, hrun, hC3⟩ := (HV1.out.1.touch t2).app _ _ (HMP.out (f - ah) (til - ah)) hlo
          have H3 : Hid (Cu w (out ++ [pieceP x (f - ah) (til - ah)]) (.slice so2 sn2 sc2) W3 ∧ (out ++ [pieceP x (f - ah) (til - ah)]).length ≤ i + 1) := ⟨hC3, by have := hlo2.out; simp; omega⟩
          rw [HPW.out] at hrun ⊢
          generalize (if rem = true then rtx else cutOf rtx.data.toList (f - (ah : Int)) (til - (ah : Int))) = tq at *
          clear hC3 t2 HV1 p0 p1 p2 p3 p4 p5 p6 hst HPi HMP HPW
          go_wp2_with (at_builtin; refine wpList_append_runW rfl _ _ rfl _ _ _ rfl rfl hrun ?_)
          clear hrun
          go_wp2_with fail
          go_roundg (L.length - (i + 1))
          case measure => omega
          case rel => exact ⟨i + 1, so2, sn2, sc2, _, by omega, rfl, by rw [HLs.out, Int.natCast_add], by go_num, H3.out.1, HS3.out, H3.out.2⟩
        · have HS3 : Hid (out ++ piecesP f til ((lenL (L.take (i + 1)) : Nat) : Int) (L.drop (i + 1)) = P) := by
            have h2 := HS2.out
            rw [if_neg hbe] at h2
            show _ = _
            rw [HLs.out, Int.natCast_add]; exact h2
          have H3 : Hid (Cu w out (.slice so sn sc) W1 ∧ out.length ≤ i + 1) := ⟨HV1.out.1, Nat.le_succ_of_le hlo2.out⟩
          clear HS2 HV1 p0 p1 p2 p3 p4 p5 p6 hst HPi HMP HPW
          go_wp2_with fail
          go_roundg (L.length - (i + 1))
          case measure => omega
          case rel => exact ⟨i + 1, so, sn, sc, _, by omega, rfl, by rw [HLs.out, Int.natCast_add], by go_num, H3.out.1, HS3.out, H3.out.2⟩
    · have hie : i = L.length := by omega
      have HF : Hid (SlRn wr (.slice so sn sc) P) := by
        have h1 := HI.out.1.sl
        have h2 := HI.out.2.1
        rw [hie, List.drop_length] at h2
        unfold piecesP at h2
        rw [List.append_nil] at h2
        rwa [h2] at h1
      have HF1 := HCl.out _ _ HI.out.1.t HF.out
      have HF2 : Hid (Calls Tryz.prog 18 #[.slice so sn sc] _ _) := HF1
      have HTV : Hid (Touch (fun _ => False) w wr) := HI.out.1.t
      have hi2 : ¬ (i : Int) < (L.length : Int) := by omega
      clear HF HF1 HCl HI HTo HTT HLT HA HM HRL HPR hie hil
      go_wp2_with fail
      refine HF2.out.mono ?_
      rintro e W3 ⟨v3, rfl, h3, t3⟩
      have HR : Hid (SlRn W3 v3 (cleanP P) ∧ Touch (fun _ => False) w W3) := ⟨h3, HTV.out.trans t3⟩
      obtain ⟨ao3, c3, e3, -⟩ := h3.shape
      clear h3 t3 HF2 HTV
      subst e3
      go_wp2_with fail
      go_ret
      exact ⟨_, rfl, HR.out⟩
end Go.Proofs.YtijkekkjiboomaaGreatDoor
