/- A strings.Builder's WriteRune of U+FFFC. -/
import Derived.Test.YtijkekkjiboomaaGreatDoorPart21
import Derived.Test.YtijkekkjiboomaaGreatDoorVxG
namespace Go.Proofs.YtijkekkjiboomaaGreatDoor
open Go.RowKit
set_option linter.unusedVariables false
set_option linter.unusedSimpArgs false
set_option maxRecDepth 100000

abbrev cFFFC : List Value := [.int .u8 239, .int .u8 191, .int .u8 188]
set_option maxHeartbeats 2000000 in
theorem rune3_any (B : Nat) (v : Value) (n : Nat) (xs : List Value) (w : World) (hown : w.ownsRowF B 5 1 v n xs) (hn : n + 3 ≤ 140737488355328) (hBw : B ≤ w.heap.size) :
    Calls Tryz.prog 85 #[v, .int .i32 65532] w fun e w' => ∃ v', e = .returned v' ∧ w'.ownsRowF B 5 1 v' (n + 3) (xs ++ cFFFC) ∧ (w.alloc (.cells #[.int .u8 239, .int .u8 191, .int .u8 188] 5)).grownBy w' v.ownBlock := by
  obtain ⟨i0, hi, hz0, hz1, hz2⟩ := info_parts Tryz.infoByte
  go_enter Tryz.func85, Tryz.ntmps85
  go_wp2_with (first | (at_builtin; refine wpList_append_ownF _ rfl _ _ 58 rfl B 5 i0 (.int .u8 0) 1 1 Tryz.underlying58 hi hz0 hz1 hz2 rfl (by decide) _ _ _ rfl (hown.alloc _) ⟨w.heap.size, 0, none⟩ 3 3 cFFFC rfl rfl ?c1 ?c2 ?c3 ?c4 ?c5 ?_))
  case c1 =>
    intro j u hj
    match j, hj with
    | 0, hj => simp at hj; subst hj; simp [Addr.add]
    | 1, hj => simp at hj; subst hj; simp [Addr.add]
    | 2, hj => simp at hj; subst hj; simp [Addr.add]
  case c2 => intro u hu; simp at hu; rcases hu with rfl | rfl | rfl <;> rfl
  case c3 => unfold maxLen; omega
  case c4 => omega
  case c5 => simp; omega
  intro v' w2 hown' hgrow _
  have HQ : Hid (w2.ownsRowF B 5 1 v' (n + 3) (xs ++ cFFFC) ∧ (w.alloc (.cells #[.int .u8 239, .int .u8 191, .int .u8 188] 5)).grownBy w2 v.ownBlock) := ⟨hown', hgrow⟩
  obtain ⟨ao, n', cap', rfl⟩ : ∃ ao n cap, v' = .slice ao n cap := by
    rcases hown'.2 with ⟨e, _⟩ | ⟨g, cap, cur, fz, e, _⟩
    · exact ⟨_, _, _, e⟩
    · exact ⟨_, _, _, e⟩
  clear hown' hgrow hown
  go_wp2_with fail
  go_ret
  exact ⟨_, rfl, HQ.out⟩
set_option maxHeartbeats 2000000 in
theorem rune_any (B : Nat) (v : Value) (n : Nat) (xs : List Value) (w : World) (hown : w.ownsRowF B 5 1 v n xs) (hn : n + 3 ≤ 140737488355328) (hBw : B ≤ w.heap.size) :
    Calls Tryz.prog 62 #[v, .int .i32 65532] w fun e w' => ∃ v', e = .returned v' ∧ w'.ownsRowF B 5 1 v' (n + 3) (xs ++ cFFFC) ∧ (w.alloc (.cells #[.int .u8 239, .int .u8 191, .int .u8 188] 5)).grownBy w' v.ownBlock := by
  have HC : Hid (Calls Tryz.prog 85 #[v, .int .i32 65532] w fun e w' => ∃ v', e = .returned v' ∧ w'.ownsRowF B 5 1 v' (n + 3) (xs ++ cFFFC) ∧ (w.alloc (.cells #[.int .u8 239, .int .u8 191, .int .u8 188] 5)).grownBy w' v.ownBlock) := rune3_any B v n xs w hown hn hBw
  clear hown
  go_enter Tryz.func62, Tryz.ntmps62
  go_wp2_with fail
  refine HC.out.mono ?_
  rintro e w1 ⟨v', rfl, h1, h2⟩
  obtain ⟨ao, n', cap', rfl⟩ : ∃ ao n cap, v' = .slice ao n cap := by
    rcases h1.2 with ⟨e, _⟩ | ⟨g, cap, cur, fz, e, _⟩
    · exact ⟨_, _, _, e⟩
    · exact ⟨_, _, _, e⟩
  have HQ : Hid (w1.ownsRowF B 5 1 (.slice ao n' cap') (n + 3) (xs ++ cFFFC) ∧ (w.alloc (.cells #[.int .u8 239, .int .u8 191, .int .u8 188] 5)).grownBy w1 v.ownBlock) := ⟨h1, h2⟩
  clear h1 h2 HC
  go_wp2_with fail
  go_ret
  exact ⟨_, rfl, HQ.out⟩
theorem cFFFC_bytes : cFFFC = Go.Lib.byteCells [239, 191, 188] := rfl
set_option maxHeartbeats 2000000 in
theorem b_writeRune (B b : Nat) (l : List UInt8) (w : World) (h : BldF B b l w) (hlen : l.length + 3 ≤ 140737488355328) (hBw : B ≤ w.heap.size) :
    Calls Tryz.prog 38 #[.pointer (some ⟨b, 0, none⟩), .int .i32 65532] w fun e w' => (∃ r, e = .returned r) ∧ BldF B b (l ++ [239, 191, 188]) w' ∧ BKeep B b w w' := by
  have HC : Hid (Calls Tryz.prog 61 #[.pointer (some ⟨b, 0, none⟩)] w fun e w' => e = .returned (.tuple #[]) ∧ Go.Lib.BuilderAtF 60 5 B b (.pointer (some ⟨b, 0, none⟩)) (Go.Lib.byteCells l) w' ∧ BKeep B b w w') := b_copyF B b l w h
  clear h
  go_enter Tryz.func38, Tryz.ntmps38
  go_wp2_with fail
  refine HC.out.mono ?_
  rintro e w1 ⟨rfl, ⟨hB, v, hbk, hown, hne⟩, hk1⟩
  have c0 : w1.cell? ⟨b, 0, none⟩ = some (.pointer (some ⟨b, 0, none⟩)) := by rw [cell_of_block hbk]; rfl
  have c1 : w1.cell? ⟨b, 1, none⟩ = some v := by rw [cell_of_block hbk]; rfl
  have hlt : b < w1.heap.size := lt_of_heap hbk
  have hBw1 : B ≤ w1.heap.size := Nat.le_trans hBw hk1.below.size
  have HK1 : Hid (BKeep B b w w1) := hk1
  have HBK : Hid (w1.heap[b]? = some (.cells #[.pointer (some ⟨b, 0, none⟩), v] 60 (0, 0))) := hbk
  rw [Go.Lib.byteCells_length] at hown
  have HR : Hid (Calls Tryz.prog 62 #[v, .int .i32 65532] w1 fun e w' => ∃ v', e = .returned v' ∧ w'.ownsRowF B 5 1 v' (l.length + 3) (Go.Lib.byteCells l ++ cFFFC) ∧ (w1.alloc (.cells #[.int .u8 239, .int .u8 191, .int .u8 188] 5)).grownBy w' v.ownBlock) := rune_any B v _ _ w1 hown hlen hBw1
  obtain ⟨vo, vn, vc, hv⟩ : ∃ ao n cap, v = .slice ao n cap := by
    rcases hown.2 with ⟨e, _⟩ | ⟨g, cap, cur, fz, e, _⟩
    · exact ⟨_, _, _, e⟩
    · exact ⟨_, _, _, e⟩
  have HO : Hid (w1.ownsRowF B 5 1 v l.length (Go.Lib.byteCells l) ∧ v.ownBlock ≠ some b) := ⟨hown, hne⟩
  clear hk1 hbk HC hown hne
  subst hv
  go_wp2_with fail
  refine HR.out.mono ?_
  rintro e w2 ⟨v', rfl, hown', hgrow⟩
  have hb2 : w2.heap[b]? = some (.cells #[.pointer (some ⟨b, 0, none⟩), .slice vo vn vc] 60 (0, 0)) := by
    rw [hgrow.block b (by simp; omega) (fun e => HO.out.2 e.symm), Below.heap_alloc _ _ _ hlt]
    exact HBK.out
  have d0 : w2.cell? ⟨b, 0, none⟩ = some (.pointer (some ⟨b, 0, none⟩)) := by rw [cell_of_block hb2]; rfl
  have d1 : w2.cell? ⟨b, 1, none⟩ = some (.slice vo vn vc) := by rw [cell_of_block hb2]; rfl
  have z1 : w2.frozen? ⟨b, 1, none⟩ = false := free_of_block hb2
  have HQ : Hid (BldF B b (l ++ [239, 191, 188]) (w2.setCell ⟨b, 1, none⟩ v') ∧ BKeep B b w (w2.setCell ⟨b, 1, none⟩ v')) := by
    have hkinds : Go.Lib.OthersKept 5 (some b) w1 w2 := ((Go.Lib.OthersKept.refl _ _ w1).alloc _).grown hgrow (Go.Lib.ownsRowF_kind (HO.out.1.alloc _))
    refine ⟨.inr (Go.Lib.BuilderAtF.put hB hb2 ?_ (by decide)), ⟨?_, ?_⟩⟩
    · rw [Go.Lib.byteCells_append, List.length_append, Go.Lib.byteCells_length]
      exact hown'
    · exact ((HK1.out.below.alloc (by omega) _).grown hgrow (by simp; omega) (fun k hk => (HO.out.1.lt k hk).1)).setCell (p := ⟨b, 1, none⟩) hB _
    · exact (HK1.out.others.trans hkinds).setCell ⟨b, 1, none⟩ rfl _
  have hb3 := heap_setCell_same w2 b 1 v' hb2
  have e1 : (w2.setCell ⟨b, 1, none⟩ v').cell? ⟨b, 1, none⟩ = some v' := by rw [cell_of_block hb3]; rfl
  obtain ⟨ao, n', cap', rfl⟩ : ∃ ao n cap, v' = .slice ao n cap := by
    rcases hown'.2 with ⟨e, _⟩ | ⟨g, cap, cur, fz, e, _⟩
    · exact ⟨_, _, _, e⟩
    · exact ⟨_, _, _, e⟩
  clear hown' hgrow HK1 HBK hb2 HO HR hb3
  go_wp2_with fail
  go_ret2
  exact ⟨⟨_, rfl⟩, HQ.out⟩
end Go.Proofs.YtijkekkjiboomaaGreatDoor

/- Views: Plain. -/
namespace Go.Proofs.YtijkekkjiboomaaGreatDoor
open Go.RowKit Go.Maps
set_option linter.unusedVariables false
set_option linter.unusedSimpArgs false
set_option maxRecDepth 100000

theorem plainT_take {L : List Rn} {i : Nat} (h : i < L.length) : plainT (L.take (i + 1)) = plainT (L.take i) ++ plainR L[i] := by
  unfold plainT
  rw [List.take_succ_eq_append_getElem h, List.flatMap_append, List.flatMap_cons, List.flatMap_nil, List.append_nil]
theorem plainT_take_le (L : List Rn) (i : Nat) : (plainT (L.take i)).length ≤ (plainT L).length := by
  have e : L = L.take i ++ L.drop i := (List.take_append_drop i L).symm
  conv => rhs; rw [e]
  unfold plainT
  rw [List.flatMap_append, List.length_append]; omega
theorem utf_check_any (s : ByteArray) (hs : s.size ≤ 9223372036854775807) (w : World) (hT : TabsU w) : Calls Tryz.prog 39 #[.string s] w fun e w' => e = .returned (.bool (runesOf s.data.toList).isSome) ∧ Touch (fun _ => False) w w' := by
  have HC : Hid (Calls Tryz.prog 63 #[.string s] w fun e w' => e = .returned (.bool (runesOf s.data.toList).isSome) ∧ Touch (fun _ => False) w w') := valid_any s hs w hT
  clear hT
  generalize (runesOf s.data.toList).isSome = r at *
  go_enter Tryz.func39, Tryz.ntmps39
  go_wp2_with fail
  refine HC.out.mono ?_
  rintro e w1 ⟨rfl, t1⟩
  have HT : Hid (Touch (fun _ => False) w w1) := t1
  clear t1 HC
  go_wp2_with fail
  go_ret
  exact ⟨rfl, HT.out⟩
set_option maxHeartbeats 16000000 in
theorem plain_any {w : World} {va : Value} {vo : Option Addr} {vn vc : Nat} {L : List Rn} (hr : SlRn w va L) (ok : ∀ x ∈ L, x.Ok ∧ x.tx.size ≤ 1048576) (hs : (plainT L).length ≤ 100000000000000) (hT : TabsU w) :
    Calls Tryz.prog 14 #[.agg #[va, .slice vo vn vc]] w fun e w' => e = .returned (.string ⟨(plainT L).toArray⟩) ∧ Touch (fun _ => False) w w' := by
  obtain ⟨raw, hrw, hm⟩ := hr
  have hrl := hm.len
  obtain ⟨ao, cap, rfl, a1, a2, a3⟩ := hrw.shape
  have HA : Hid (raw ≠ [] → _) := hrw.at
  have HM : Hid (∀ j (h1 : j < raw.length) (h2 : j < L.length), MtR w raw[j] L[j]) := hm.get
  have HT : Hid (TabsU w) := hT
  have HRL : Hid (raw.length = L.length) := hrl
  have hLl : L.length ≤ 9223372036854775807 := by omega
  have HS : Hid ((plainT L).length ≤ 100000000000000) := hs
  have HOK : Hid (∀ x ∈ L, x.Ok ∧ x.tx.size ≤ 1048576) := ok
  obtain ⟨w1, hw1⟩ : ∃ w1, Hid (w1 = w.alloc (.cells #[.slice ao raw.length cap, .slice vo vn vc] 25)) := ⟨w.alloc (.cells #[.slice ao raw.length cap, .slice vo vn vc] 25), Eq.refl _⟩
  obtain ⟨w2, hw2⟩ : ∃ w2, Hid (w2 = w1.alloc (.cells #[.pointer none, .slice none 0 0] 60)) := ⟨_, Eq.refl _⟩
  obtain ⟨m, hmm⟩ : ∃ m, Hid (m = w.heap.size) := ⟨_, Eq.refl _⟩
  obtain ⟨b, hbb⟩ : ∃ b, Hid (b = w1.heap.size) := ⟨_, Eq.refl _⟩
  have t1 : Touch (fun _ => False) w w1 := by rw [hw1.out]; exact (Touch.refl _ _).alloc _
  have HB : Hid (w.heap.size ≤ b) := by show _ ≤ _; rw [hbb.out]; exact t1.size
  have H2 : Hid (BldF b b [] w2 ∧ Touch (fun _ => False) w w2) := by
    refine ⟨?_, ?_⟩
    · rw [hw2.out, hbb.out]; exact BldF.new w1
    · rw [hw2.out]; exact t1.alloc _
  have HC0 : Hid (w2.cell? ⟨m, 0, none⟩ = some (.slice ao raw.length cap)) := by
    have h1 := heap_alloc_new w (.cells #[.slice ao raw.length cap, .slice vo vn vc] 25)
    rw [← hw1.out, ← hmm.out] at h1
    have h2 := hkY ((Touch.refl _ w1).alloc (.cells #[.pointer none, .slice none 0 0] 60)) h1
    rw [← hw2.out] at h2
    exact (viewO_cells h2).1
  clear hrw hm hT hrl hs t1 ok
  have hst := run_store_f64 Tryz.prog
  go_enter Tryz.func14, Tryz.ntmps14
  go_upto_region 1 with fail
  rw [← hw1.out, ← hmm.out]
  go_upto_region 2 with fail
  rw [← hw2.out, ← hbb.out]
  clear hw1 hw2 hbb hmm
  have c0 := HC0.out
  go_wp2_with fail
  clear c0 HC0
  rw [HRL.out]
  go_loopg [9] L.length (fun gk s9 wr => ∃ i : Nat, i + gk = L.length ∧ s9 = .int .i64 (i : Int) ∧ Hid (BldF b b (plainT (L.take i)) wr ∧ Touch (fun _ => False) w wr))
  case atStart => exact ⟨0, by omega, rfl, H2.out⟩
  case round =>
    obtain ⟨i, hig, rfl, HI⟩ := hrel
    by_cases hil : i < L.length
    · have hil2 : i < raw.length := by rw [HRL.out]; exact hil
      obtain ⟨g, o, rfl, -, hca⟩ := HA.out (by intro e; subst e; simp at hil2)
      obtain ⟨x0, x1, x2, x3, x4, x5, x6⟩ := hca wr HI.out.2 i hil2
      have hi1 : (0 : Int) ≤ (i : Int) := by omega
      have hi2 : (i : Int) < (L.length : Int) := by omega
      have HJ : Hid (plainT (L.take (i + 1)) = plainT (L.take i) ++ plainR L[i]) := plainT_take hil
      have hlen : (plainT (L.take i)).length + (plainR L[i]).length ≤ 100000000000000 := by
        have h1 := congrArg List.length HJ.out
        have h2 := plainT_take_le L (i + 1)
        have h3 := HS.out
        rw [List.length_append] at h1
        omega
      have hMt := HM.out i hil2 hil
      obtain ⟨hOk, hsz⟩ := HOK.out _ (List.getElem_mem hil)
      obtain ⟨U, hU⟩ : ∃ U, Hid (U = wr.alloc (rwO raw[i])) := ⟨wr.alloc (rwO raw[i]), Eq.refl _⟩
      have hbx := heap_alloc_new wr (rwO raw[i])
      have tU : Touch (fun _ => False) wr U := by rw [hU.out]; exact (Touch.refl _ _).alloc _
      rw [← hU.out] at hbx
      have HEm : Hid (raw[i].em = L[i].em) := hMt.em
      have HRu : Hid (L[i].em = true → Calls Tryz.prog 38 #[.pointer (some ⟨b, 0, none⟩), .int .i32 65532] U fun e w' => (∃ r, e = .returned r) ∧ Hid (BldF b b (plainT (L.take (i + 1))) w' ∧ Touch (fun _ => False) w w')) := fun he => by
        have hb2 := HI.out.1.touch tU
        have ep : plainR L[i] = [239, 191, 188] := by unfold plainR; rw [if_pos he]
        rw [ep] at hlen
        have h3 : ([239, 191, 188] : List UInt8).length = 3 := rfl
        refine (b_writeRune b b _ U hb2 (by omega) hb2.le).mono ?_
        rintro e' w' ⟨q1, q2, q3⟩
        refine ⟨q1, by rw [HJ.out, ep]; exact q2, (HI.out.2.trans tU).onto HB.out q3.below⟩
      have HVs : Hid (L[i].em = false → Calls Tryz.prog 39 #[.string raw[i].tx] U fun e w' => e = .returned (.bool true) ∧ Touch (fun _ => False) U w') := fun he => by
        have h1 := utf_check_any raw[i].tx (by rw [hMt.tx]; omega) U (HT.out.keep (HI.out.2.trans tU))
        rw [hMt.tx, (hOk.t he).2] at h1
        rw [hMt.tx]
        exact h1
      have HWs : Hid (L[i].em = false → ∀ W, Touch (fun _ => False) U W → Calls Tryz.prog 40 #[.pointer (some ⟨b, 0, none⟩), .string raw[i].tx] W fun e w' => (∃ r, e = .returned r) ∧ Hid (BldF b b (plainT (L.take (i + 1))) w' ∧ Touch (fun _ => False) w w')) := fun he W t => by
        have hb2 := HI.out.1.touch (tU.trans t)
        have ep : plainR L[i] = raw[i].tx.data.toList := by unfold plainR; rw [if_neg (by rw [he]; simp), hMt.tx]
        rw [ep] at hlen
        have h3 : raw[i].tx.data.toList.length = raw[i].tx.size := by rw [Array.length_toList]; rfl
        refine (b_writeStr b b _ raw[i].tx W hb2 (by omega) hb2.le).mono ?_
        rintro e' w' ⟨q1, q2, q3⟩
        refine ⟨⟨_, q1⟩, by rw [HJ.out, ep]; exact q2, ((HI.out.2.trans tU).trans t).onto HB.out q3.below⟩
      clear hca HA HM HI HJ hlen tU hMt hOk HOK HS HT H2
      rw [← HEm.out] at HRu HVs HWs
      clear HEm
      generalize raw[i] = a at *
      obtain ⟨rtx, rem, rvk, rvn, rvf, rvs, ⟨rma, rmn, rmc⟩⟩ := a
      simp only at x0 x1 x2 x3 x4 x5 x6 HRu HVs HWs
      have HQx : Hid (U.heap[wr.heap.size]? = some (rwO ⟨rtx, rem, rvk, rvn, rvf, rvs, ⟨rma, rmn, rmc⟩⟩)) := hbx
      obtain ⟨p0, p1, p2, p3, p4, p5, p6⟩ := rwO_cells hbx
      have hU2 : Hid (U = wr.alloc (.cells #[.string rtx, .bool rem, .int .i64 rvk, .int .i64 rvn, .float .f64 rvf, .string rvs, .slice rma rmn rmc] 48)) := hU
      clear hU hbx hil2 HRL
      go_upto_region 5 with fail
      rw [← hU2.out]
      clear hU2 x0 x1 x2 x3 x4 x5 x6
      generalize wr.heap.size = bx at *
      cases rem with
      | true =>
        have HC := HRu.out rfl
        have HC2 : Hid (Calls Tryz.prog 38 #[.pointer (some ⟨b, 0, none⟩), .int .i32 65532] U fun e w' => (∃ r, e = .returned r) ∧ Hid (BldF b b (plainT (L.take (i + 1))) w' ∧ Touch (fun _ => False) w w')) := HC
        clear HC HRu HVs HWs HQx
        go_wp2_with fail
        refine HC2.out.mono ?_
        rintro e W2 ⟨⟨r, rfl⟩, HF⟩
        clear HC2 p0 p1 p2 p3 p4 p5 p6
        go_wp2_with fail
        go_roundg (L.length - (i + 1))
        case measure => omega
        case rel => exact ⟨i + 1, by omega, by go_num, HF.out⟩
      | false =>
        have HC := HVs.out rfl
        have HC2 : Hid (Calls Tryz.prog 39 #[.string rtx] U fun e w' => e = .returned (.bool true) ∧ Touch (fun _ => False) U w') := HC
        have HD := HWs.out rfl
        have HD2 : Hid (∀ W, Touch (fun _ => False) U W → Calls Tryz.prog 40 #[.pointer (some ⟨b, 0, none⟩), .string rtx] W fun e w' => (∃ r, e = .returned r) ∧ Hid (BldF b b (plainT (L.take (i + 1))) w' ∧ Touch (fun _ => False) w w')) := HD
        clear HC HD HRu HVs HWs
        go_wp2_with fail
        refine HC2.out.mono ?_
        rintro e W1 ⟨rfl, t1⟩
        clear p0 p1 p2 p3 p4 p5 p6
        obtain ⟨p0, p1, p2, p3, p4, p5, p6⟩ := rwO_cells (hkY t1 HQx.out)
        have HD3 : Hid (Calls Tryz.prog 40 #[.pointer (some ⟨b, 0, none⟩), .string rtx] W1 fun e w' => (∃ r, e = .returned r) ∧ Hid (BldF b b (plainT (L.take (i + 1))) w' ∧ Touch (fun _ => False) w w')) := HD2.out W1 t1
        clear HQx HC2 HD2 t1
        go_wp2_with fail
        refine HD3.out.mono ?_
        rintro e W2 ⟨⟨r, rfl⟩, HF⟩
        clear HD3 p0 p1 p2 p3 p4 p5 p6
        go_wp2_with fail
        go_roundg (L.length - (i + 1))
        case measure => omega
        case rel => exact ⟨i + 1, by omega, by go_num, HF.out⟩
    · have : i = L.length := by omega
      subst this
      have HC2 : Hid (Calls Tryz.prog 37 #[.pointer (some ⟨b, 0, none⟩)] wr fun e w' => e = .returned (.string ⟨(plainT L).toArray⟩) ∧ Touch (fun _ => False) w w') := by
        have k := HI.out
        rw [List.take_length] at k
        exact (b_strA b b _ wr k.1 k.1.le).mono fun e w' ⟨r1, r2, r3⟩ => ⟨r1, k.2.onto HB.out r3.below⟩
      clear HI HA HM HOK HS HT H2
      go_wp2_with fail
      refine HC2.out.mono ?_
      rintro e W2 ⟨rfl, t2⟩
      have HF : Hid (Touch (fun _ => False) w W2) := t2
      clear t2 HC2
      go_wp2_with fail
      go_ret
      exact ⟨rfl, HF.out⟩
end Go.Proofs.YtijkekkjiboomaaGreatDoor
