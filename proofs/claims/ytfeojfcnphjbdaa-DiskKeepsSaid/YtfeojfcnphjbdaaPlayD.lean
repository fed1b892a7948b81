/- The contract of quirelaw4.play. -/
import Derived.Test.YtfeojfcnphjbdaaPlayM
import Derived.Deep.RegionHeld3
namespace Go.Proofs.Ytfeojfcnphjbdaa
open Go.RowKit Go.Maps
set_option linter.unusedVariables false

set_option maxRecDepth 100000 in
set_option maxHeartbeats 6400000 in
theorem play_any {w0 w : World} {d : Nat} {F : Nat → Prop} {s : St} (h : Live w0 w d F s) (ao : Option Addr) (l : List StepV) (n cap : Nat) (hn : n = l.length) (hS : Steps w0 ao l) (hlen : s.fs.length + l.length ≤ 1000000) :
    Calls Try.prog 35 #[dp d, .slice ao n cap] w fun e w' => e = .returned (.int .i64 (pCnt s l : Int)) ∧ LPost w0 d F (pEnd s l) w w' := by
  subst hn
  have HS : Hid (Steps w0 ao l) := hS
  have HL : Hid (Live w0 w d F s) := h
  have hll : l.length ≤ 1000000 := by omega
  clear hS h
  go_enter Try.func35, Try.ntmps35
  go_wp2_with fail
  go_loopw [5, 6] (fun a b wr => ∃ k : Nat, b = .int .i64 (k : Int) ∧ k ≤ l.length ∧ a = .int .i64 (pCnt s (l.take k) : Int) ∧ LPost w0 d F (pEnd s (l.take k)) w wr) (fun _ b _ => (l.length - intOf b).toNat)
  case atStart => exact ⟨0, rfl, Nat.zero_le _, rfl, F, HL.out, Step.same (Touch.refl _ _)⟩
  case round =>
    obtain ⟨k, rfl, hk, rfl, hP⟩ := hrel
    by_cases hlt : k < l.length
    · obtain ⟨F1, h1, hs1⟩ := hP
      obtain ⟨g, off, rfl, hA⟩ := HS.out.cells k hlt
      have hA2 := hA.touch h1.since
      have HK : Hid (∀ w', Touch (fun _ => False) w0 w' → StepAt w' g (off + k * 6) l[k]) := fun w' t => hA.touch t
      have hok := HS.out.ok l[k] (List.getElem_mem hlt)
      have hsl : (pEnd s (l.take k)).fs.length ≤ 1073741823 := by
        have := pEnd_len (l.take k) s
        rw [List.length_take] at this; omega
      have hcl : pCnt s (l.take k) ≤ 1000000 := by
        have := pCnt_le (l.take k) s
        rw [List.length_take] at this; omega
      have HN1 : Hid (pEnd s (l.take (k + 1)) = pS (pEnd s (l.take k)) l[k]) := by rw [Hid, List.take_succ_eq_append_getElem hlt, pEnd_snoc]
      have HN2 : Hid (pCnt s (l.take (k + 1)) = pCnt s (l.take k) + done0 (pE (pEnd s (l.take k)) l[k])) := by rw [Hid, List.take_succ_eq_append_getElem hlt, pCnt_snoc]
      have z2 := hok.name
      have z3 := hok.tgt
      have z4 := hok.blen
      have c0 := hA2.c0
      have c1 := hA2.c1
      have c2 := hA2.c2
      have c3 := hA2.c3
      have c4 := hA2.c4
      have HX : Hid (StepOk w0 l[k]) := hok
      have HB : Hid (Step F F1 w wr) := hs1
      have H1 : Hid (Live w0 wr d F1 (pEnd s (l.take k))) := h1
      clear hA hA2 hok h1 hs1
      have HEnd : Hid (∀ w', LPost w0 d F1 (pS (pEnd s (l.take k)) l[k]) wr w' → LPost w0 d F (pEnd s (l.take (k + 1))) w w') := by
        intro w' hq; rw [HN1.out]; exact LPost.trans HB.out hq
      clear HN1 HB
      generalize pEnd s (l.take k) = s1 at *
      generalize l[k] = x at *
      generalize pCnt s (l.take k) = C at *
      by_cases hw : x.what = 0
      · obtain ⟨E, hE⟩ : ∃ E, E = appE s1 x.nm x.b := ⟨_, rfl⟩
        have HEq : Hid (pE s1 x = E) := by rw [Hid, hE]; unfold pE StepV.app; simp [hw]
        have HPs : Hid (pS s1 x = mAppend s1 x.nm x.b) := by unfold pS StepV.app; simp [hw, Hid]
        have HC : Hid (Calls Try.prog 12 #[dp d, .string x.name, .slice x.bo x.b.length x.bcap] wr.drew fun e w' => e = .returned (.int .i64 E) ∧ LPost w0 d F (pEnd s (l.take (k + 1))) w w' ∧ Touch (fun _ => False) w0 w') := by
          rw [hE]
          refine (lAppend (H1.out.touch ((Touch.refl _ wr).drew)) hsl x.name (by omega) x.bg x.bo x.b x.b.length x.bcap rfl HX.out.bno (HX.out.bl.keep fun e => ((H1.out.touch ((Touch.refl _ wr).drew)).since.block x.bg (HX.out.bl.lt e) id)) HX.out.blen).mono ?_
          rintro e w' ⟨he, hq⟩
          have hq2 := HEnd.out w' (by rw [HPs.out]; exact hq.pre ((Touch.refl _ wr).drew))
          obtain ⟨F', hl, _⟩ := id hq2
          exact ⟨he, hq2, hl.since⟩
        clear hE HEnd HPs H1 HX
        rw [hw] at c0
        go_wp2_with fail
        go_region_held3 (fun W => W.cell? ⟨g, off + k * 6 + 2, none⟩ = some (.string x.name) ∧ W.cell? ⟨g, off + k * 6 + 4, none⟩ = some (.slice x.bo x.b.length x.bcap)) (first | assumption | exact ⟨c2, c4⟩)
          (first | (go_at_call 12; (with_reducible refine HC.out.mono ?_); rintro e w2 ⟨rfl, hq, ht⟩; have hA3 := HK.out w2 ht; have hS2 : w2.cell? ⟨g, off + k * 6 + 2, none⟩ = some (.string x.name) ∧ w2.cell? ⟨g, off + k * 6 + 4, none⟩ = some (.slice x.bo x.b.length x.bcap) := ⟨hA3.c2, hA3.c4⟩; have HZ : Hid (LPost w0 d F (pEnd s (l.take (k + 1))) w w2) := hq; clear hq ht hA3))
        by_cases hE0 : E = 0
        · have HC2 : Hid (pCnt s (l.take (k + 1)) = C + 1) := by rw [Hid, HN2.out, HEq.out, done0, if_pos hE0]
          clear HN2
          go_wp2_with fail
          go_roundw
          case rel => exact ⟨k + 1, by go_num, by omega, by rw [HC2.out]; go_num, HZ.out⟩
          case measure => simp [intOf]; omega
        · have HC2 : Hid (pCnt s (l.take (k + 1)) = C) := by rw [Hid, HN2.out, HEq.out, done0, if_neg hE0]; rfl
          have hE1 : (E == 0) = false := by simpa using hE0
          clear HN2
          go_wp2_with fail
          go_roundw
          case rel => exact ⟨k + 1, by go_num, by omega, by rw [HC2.out], HZ.out⟩
          case measure => simp [intOf]; omega
      have hw0 : (x.what == 0) = false := by simpa using hw
      have hv0 : ¬ x.what = 0 := hw
      clear hw
      by_cases hw : x.what = 1
      · obtain ⟨E, hE⟩ : ∃ E, E = appE s1 x.nm x.b := ⟨_, rfl⟩
        have HEq : Hid (pE s1 x = E) := by rw [Hid, hE]; unfold pE StepV.app; simp [hw]
        have HPs : Hid (pS s1 x = mAppend s1 x.nm x.b) := by unfold pS StepV.app; simp [hw, Hid]
        have HC : Hid (Calls Try.prog 12 #[dp d, .string x.name, .slice x.bo x.b.length x.bcap] wr.drew fun e w' => e = .returned (.int .i64 E) ∧ LPost w0 d F (pEnd s (l.take (k + 1))) w w' ∧ Touch (fun _ => False) w0 w') := by
          rw [hE]
          refine (lAppend (H1.out.touch ((Touch.refl _ wr).drew)) hsl x.name (by omega) x.bg x.bo x.b x.b.length x.bcap rfl HX.out.bno (HX.out.bl.keep fun e => ((H1.out.touch ((Touch.refl _ wr).drew)).since.block x.bg (HX.out.bl.lt e) id)) HX.out.blen).mono ?_
          rintro e w' ⟨he, hq⟩
          have hq2 := HEnd.out w' (by rw [HPs.out]; exact hq.pre ((Touch.refl _ wr).drew))
          obtain ⟨F', hl, _⟩ := id hq2
          exact ⟨he, hq2, hl.since⟩
        clear hE HEnd HPs H1 HX
        rw [hw] at c0
        go_wp2_with fail
        go_region_held3 (fun W => W.cell? ⟨g, off + k * 6 + 2, none⟩ = some (.string x.name) ∧ W.cell? ⟨g, off + k * 6 + 4, none⟩ = some (.slice x.bo x.b.length x.bcap)) (first | assumption | exact ⟨c2, c4⟩)
          (first | (go_at_call 12; (with_reducible refine HC.out.mono ?_); rintro e w2 ⟨rfl, hq, ht⟩; have hA3 := HK.out w2 ht; have hS2 : w2.cell? ⟨g, off + k * 6 + 2, none⟩ = some (.string x.name) ∧ w2.cell? ⟨g, off + k * 6 + 4, none⟩ = some (.slice x.bo x.b.length x.bcap) := ⟨hA3.c2, hA3.c4⟩; have HZ : Hid (LPost w0 d F (pEnd s (l.take (k + 1))) w w2) := hq; clear hq ht hA3))
        by_cases hE0 : E = 0
        · have HC2 : Hid (pCnt s (l.take (k + 1)) = C + 1) := by rw [Hid, HN2.out, HEq.out, done0, if_pos hE0]
          clear HN2
          go_wp2_with fail
          go_roundw
          case rel => exact ⟨k + 1, by go_num, by omega, by rw [HC2.out]; go_num, HZ.out⟩
          case measure => simp [intOf]; omega
        · have HC2 : Hid (pCnt s (l.take (k + 1)) = C) := by rw [Hid, HN2.out, HEq.out, done0, if_neg hE0]; rfl
          have hE1 : (E == 0) = false := by simpa using hE0
          clear HN2
          go_wp2_with fail
          go_roundw
          case rel => exact ⟨k + 1, by go_num, by omega, by rw [HC2.out], HZ.out⟩
          case measure => simp [intOf]; omega
      have hw1 : (x.what == 1) = false := by simpa using hw
      have hv1 : ¬ x.what = 1 := hw
      clear hw
      by_cases hw : x.what = 2
      · obtain ⟨E, hE⟩ : ∃ E, E = appE s1 x.nm x.b := ⟨_, rfl⟩
        have HEq : Hid (pE s1 x = E) := by rw [Hid, hE]; unfold pE StepV.app; simp [hw]
        have HPs : Hid (pS s1 x = mAppend s1 x.nm x.b) := by unfold pS StepV.app; simp [hw, Hid]
        have HC : Hid (Calls Try.prog 12 #[dp d, .string x.name, .slice x.bo x.b.length x.bcap] wr.drew fun e w' => e = .returned (.int .i64 E) ∧ LPost w0 d F (pEnd s (l.take (k + 1))) w w' ∧ Touch (fun _ => False) w0 w') := by
          rw [hE]
          refine (lAppend (H1.out.touch ((Touch.refl _ wr).drew)) hsl x.name (by omega) x.bg x.bo x.b x.b.length x.bcap rfl HX.out.bno (HX.out.bl.keep fun e => ((H1.out.touch ((Touch.refl _ wr).drew)).since.block x.bg (HX.out.bl.lt e) id)) HX.out.blen).mono ?_
          rintro e w' ⟨he, hq⟩
          have hq2 := HEnd.out w' (by rw [HPs.out]; exact hq.pre ((Touch.refl _ wr).drew))
          obtain ⟨F', hl, _⟩ := id hq2
          exact ⟨he, hq2, hl.since⟩
        clear hE HEnd HPs H1 HX
        rw [hw] at c0
        go_wp2_with fail
        go_region_held3 (fun W => W.cell? ⟨g, off + k * 6 + 2, none⟩ = some (.string x.name) ∧ W.cell? ⟨g, off + k * 6 + 4, none⟩ = some (.slice x.bo x.b.length x.bcap)) (first | assumption | exact ⟨c2, c4⟩)
          (first | (go_at_call 12; (with_reducible refine HC.out.mono ?_); rintro e w2 ⟨rfl, hq, ht⟩; have hA3 := HK.out w2 ht; have hS2 : w2.cell? ⟨g, off + k * 6 + 2, none⟩ = some (.string x.name) ∧ w2.cell? ⟨g, off + k * 6 + 4, none⟩ = some (.slice x.bo x.b.length x.bcap) := ⟨hA3.c2, hA3.c4⟩; have HZ : Hid (LPost w0 d F (pEnd s (l.take (k + 1))) w w2) := hq; clear hq ht hA3))
        by_cases hE0 : E = 0
        · have HC2 : Hid (pCnt s (l.take (k + 1)) = C + 1) := by rw [Hid, HN2.out, HEq.out, done0, if_pos hE0]
          clear HN2
          go_wp2_with fail
          go_roundw
          case rel => exact ⟨k + 1, by go_num, by omega, by rw [HC2.out]; go_num, HZ.out⟩
          case measure => simp [intOf]; omega
        · have HC2 : Hid (pCnt s (l.take (k + 1)) = C) := by rw [Hid, HN2.out, HEq.out, done0, if_neg hE0]; rfl
          have hE1 : (E == 0) = false := by simpa using hE0
          clear HN2
          go_wp2_with fail
          go_roundw
          case rel => exact ⟨k + 1, by go_num, by omega, by rw [HC2.out], HZ.out⟩
          case measure => simp [intOf]; omega
      have hw2 : (x.what == 2) = false := by simpa using hw
      have hv2 : ¬ x.what = 2 := hw
      clear hw
      by_cases hw : x.what = 3
      · obtain ⟨E, hE⟩ : ∃ E, E = appE s1 x.nm x.b := ⟨_, rfl⟩
        have HEq : Hid (pE s1 x = E) := by rw [Hid, hE]; unfold pE StepV.app; simp [hw]
        have HPs : Hid (pS s1 x = mAppend s1 x.nm x.b) := by unfold pS StepV.app; simp [hw, Hid]
        have HC : Hid (Calls Try.prog 12 #[dp d, .string x.name, .slice x.bo x.b.length x.bcap] wr.drew fun e w' => e = .returned (.int .i64 E) ∧ LPost w0 d F (pEnd s (l.take (k + 1))) w w' ∧ Touch (fun _ => False) w0 w') := by
          rw [hE]
          refine (lAppend (H1.out.touch ((Touch.refl _ wr).drew)) hsl x.name (by omega) x.bg x.bo x.b x.b.length x.bcap rfl HX.out.bno (HX.out.bl.keep fun e => ((H1.out.touch ((Touch.refl _ wr).drew)).since.block x.bg (HX.out.bl.lt e) id)) HX.out.blen).mono ?_
          rintro e w' ⟨he, hq⟩
          have hq2 := HEnd.out w' (by rw [HPs.out]; exact hq.pre ((Touch.refl _ wr).drew))
          obtain ⟨F', hl, _⟩ := id hq2
          exact ⟨he, hq2, hl.since⟩
        clear hE HEnd HPs H1 HX
        rw [hw] at c0
        go_wp2_with fail
        go_region_held3 (fun W => W.cell? ⟨g, off + k * 6 + 2, none⟩ = some (.string x.name) ∧ W.cell? ⟨g, off + k * 6 + 4, none⟩ = some (.slice x.bo x.b.length x.bcap)) (first | assumption | exact ⟨c2, c4⟩)
          (first | (go_at_call 12; (with_reducible refine HC.out.mono ?_); rintro e w2 ⟨rfl, hq, ht⟩; have hA3 := HK.out w2 ht; have hS2 : w2.cell? ⟨g, off + k * 6 + 2, none⟩ = some (.string x.name) ∧ w2.cell? ⟨g, off + k * 6 + 4, none⟩ = some (.slice x.bo x.b.length x.bcap) := ⟨hA3.c2, hA3.c4⟩; have HZ : Hid (LPost w0 d F (pEnd s (l.take (k + 1))) w w2) := hq; clear hq ht hA3))
        by_cases hE0 : E = 0
        · have HC2 : Hid (pCnt s (l.take (k + 1)) = C + 1) := by rw [Hid, HN2.out, HEq.out, done0, if_pos hE0]
          clear HN2
          go_wp2_with fail
          go_roundw
          case rel => exact ⟨k + 1, by go_num, by omega, by rw [HC2.out]; go_num, HZ.out⟩
          case measure => simp [intOf]; omega
        · have HC2 : Hid (pCnt s (l.take (k + 1)) = C) := by rw [Hid, HN2.out, HEq.out, done0, if_neg hE0]; rfl
          have hE1 : (E == 0) = false := by simpa using hE0
          clear HN2
          go_wp2_with fail
          go_roundw
          case rel => exact ⟨k + 1, by go_num, by omega, by rw [HC2.out], HZ.out⟩
          case measure => simp [intOf]; omega
      have hw3 : (x.what == 3) = false := by simpa using hw
      have hv3 : ¬ x.what = 3 := hw
      clear hw
      by_cases hw : x.what = 4
      · obtain ⟨E, hE⟩ : ∃ E, E = s1.err x.nm := ⟨_, rfl⟩
        have HEq : Hid (pE s1 x = E) := by rw [Hid, hE]; unfold pE StepV.app; simp [hw]
        have HPs : Hid (pS s1 x = mSync s1 x.nm) := by unfold pS StepV.app; simp [hw, Hid]
        have HC : Hid (Calls Try.prog 15 #[dp d, .string x.name] wr fun e w' => e = .returned (.int .i64 E) ∧ LPost w0 d F (pEnd s (l.take (k + 1))) w w' ∧ Touch (fun _ => False) w0 w') := by
          rw [hE]
          refine (lSync H1.out hsl x.name (by omega)).mono ?_
          rintro e w' ⟨he, hq⟩
          have hq2 := HEnd.out w' (by rw [HPs.out]; exact hq)
          obtain ⟨F', hl, _⟩ := id hq2
          exact ⟨he, hq2, hl.since⟩
        clear hE HEnd HPs H1 HX
        rw [hw] at c0
        go_wp2_with fail
        refine HC.out.mono ?_
        rintro e w2 ⟨rfl, hq, ht⟩
        have HZ : Hid (LPost w0 d F (pEnd s (l.take (k + 1))) w w2) := hq
        clear hq ht HC
        by_cases hE0 : E = 0
        · have HC2 : Hid (pCnt s (l.take (k + 1)) = C + 1) := by rw [Hid, HN2.out, HEq.out, done0, if_pos hE0]
          clear HN2
          go_wp2_with fail
          go_roundw
          case rel => exact ⟨k + 1, by go_num, by omega, by rw [HC2.out]; go_num, HZ.out⟩
          case measure => simp [intOf]; omega
        · have HC2 : Hid (pCnt s (l.take (k + 1)) = C) := by rw [Hid, HN2.out, HEq.out, done0, if_neg hE0]; rfl
          have hE1 : (E == 0) = false := by simpa using hE0
          clear HN2
          go_wp2_with fail
          go_roundw
          case rel => exact ⟨k + 1, by go_num, by omega, by rw [HC2.out], HZ.out⟩
          case measure => simp [intOf]; omega
      have hw4 : (x.what == 4) = false := by simpa using hw
      have hv4 : ¬ x.what = 4 := hw
      clear hw
      by_cases hw : x.what = 5
      · obtain ⟨E, hE⟩ : ∃ E, E = renE s1 x.nm x.tg := ⟨_, rfl⟩
        have HEq : Hid (pE s1 x = E) := by rw [Hid, hE]; unfold pE StepV.app; simp [hw]
        have HPs : Hid (pS s1 x = mRename s1 x.nm x.tg) := by unfold pS StepV.app; simp [hw, Hid]
        have HC : Hid (Calls Try.prog 17 #[dp d, .string x.name, .string x.tgt] wr.drew fun e w' => e = .returned (.int .i64 E) ∧ LPost w0 d F (pEnd s (l.take (k + 1))) w w' ∧ Touch (fun _ => False) w0 w') := by
          rw [hE]
          refine (lRename (H1.out.touch ((Touch.refl _ wr).drew)) hsl x.name (by omega) x.tgt (by omega)).mono ?_
          rintro e w' ⟨he, hq⟩
          have hq2 := HEnd.out w' (by rw [HPs.out]; exact hq.pre ((Touch.refl _ wr).drew))
          obtain ⟨F', hl, _⟩ := id hq2
          exact ⟨he, hq2, hl.since⟩
        clear hE HEnd HPs H1 HX
        rw [hw] at c0
        go_wp2_with fail
        go_region_held3 (fun W => W.cell? ⟨g, off + k * 6 + 2, none⟩ = some (.string x.name) ∧ W.cell? ⟨g, off + k * 6 + 3, none⟩ = some (.string x.tgt)) (first | assumption | exact ⟨c2, c3⟩)
          (first | (go_at_call 17; (with_reducible refine HC.out.mono ?_); rintro e w2 ⟨rfl, hq, ht⟩; have hA3 := HK.out w2 ht; have hS2 : w2.cell? ⟨g, off + k * 6 + 2, none⟩ = some (.string x.name) ∧ w2.cell? ⟨g, off + k * 6 + 3, none⟩ = some (.string x.tgt) := ⟨hA3.c2, hA3.c3⟩; have HZ : Hid (LPost w0 d F (pEnd s (l.take (k + 1))) w w2) := hq; clear hq ht hA3))
        by_cases hE0 : E = 0
        · have HC2 : Hid (pCnt s (l.take (k + 1)) = C + 1) := by rw [Hid, HN2.out, HEq.out, done0, if_pos hE0]
          clear HN2
          go_wp2_with fail
          go_roundw
          case rel => exact ⟨k + 1, by go_num, by omega, by rw [HC2.out]; go_num, HZ.out⟩
          case measure => simp [intOf]; omega
        · have HC2 : Hid (pCnt s (l.take (k + 1)) = C) := by rw [Hid, HN2.out, HEq.out, done0, if_neg hE0]; rfl
          have hE1 : (E == 0) = false := by simpa using hE0
          clear HN2
          go_wp2_with fail
          go_roundw
          case rel => exact ⟨k + 1, by go_num, by omega, by rw [HC2.out], HZ.out⟩
          case measure => simp [intOf]; omega
      have hw5 : (x.what == 5) = false := by simpa using hw
      have hv5 : ¬ x.what = 5 := hw
      clear hw
      by_cases hw : x.what = 6
      · obtain ⟨E, hE⟩ : ∃ E, E = s1.err x.nm := ⟨_, rfl⟩
        have HEq : Hid (pE s1 x = E) := by rw [Hid, hE]; unfold pE StepV.app; simp [hw]
        have HPs : Hid (pS s1 x = mTrunc s1 x.nm x.n) := by unfold pS StepV.app; simp [hw, Hid]
        have HC : Hid (Calls Try.prog 19 #[dp d, .string x.name, .int .i64 x.n] wr.drew fun e w' => e = .returned (.int .i64 E) ∧ LPost w0 d F (pEnd s (l.take (k + 1))) w w' ∧ Touch (fun _ => False) w0 w') := by
          rw [hE]
          refine (lTrunc (H1.out.touch ((Touch.refl _ wr).drew)) hsl x.name (by omega) x.n HX.out.n).mono ?_
          rintro e w' ⟨he, hq⟩
          have hq2 := HEnd.out w' (by rw [HPs.out]; exact hq.pre ((Touch.refl _ wr).drew))
          obtain ⟨F', hl, _⟩ := id hq2
          exact ⟨he, hq2, hl.since⟩
        clear hE HEnd HPs H1 HX
        rw [hw] at c0
        go_wp2_with fail
        go_region_held3 (fun W => W.cell? ⟨g, off + k * 6 + 2, none⟩ = some (.string x.name) ∧ W.cell? ⟨g, off + k * 6 + 1, none⟩ = some (.int .i64 x.n)) (first | assumption | exact ⟨c2, c1⟩)
          (first | (go_at_call 19; (with_reducible refine HC.out.mono ?_); rintro e w2 ⟨rfl, hq, ht⟩; have hA3 := HK.out w2 ht; have hS2 : w2.cell? ⟨g, off + k * 6 + 2, none⟩ = some (.string x.name) ∧ w2.cell? ⟨g, off + k * 6 + 1, none⟩ = some (.int .i64 x.n) := ⟨hA3.c2, hA3.c1⟩; have HZ : Hid (LPost w0 d F (pEnd s (l.take (k + 1))) w w2) := hq; clear hq ht hA3))
        by_cases hE0 : E = 0
        · have HC2 : Hid (pCnt s (l.take (k + 1)) = C + 1) := by rw [Hid, HN2.out, HEq.out, done0, if_pos hE0]
          clear HN2
          go_wp2_with fail
          go_roundw
          case rel => exact ⟨k + 1, by go_num, by omega, by rw [HC2.out]; go_num, HZ.out⟩
          case measure => simp [intOf]; omega
        · have HC2 : Hid (pCnt s (l.take (k + 1)) = C) := by rw [Hid, HN2.out, HEq.out, done0, if_neg hE0]; rfl
          have hE1 : (E == 0) = false := by simpa using hE0
          clear HN2
          go_wp2_with fail
          go_roundw
          case rel => exact ⟨k + 1, by go_num, by omega, by rw [HC2.out], HZ.out⟩
          case measure => simp [intOf]; omega
      have hw6 : (x.what == 6) = false := by simpa using hw
      have hv6 : ¬ x.what = 6 := hw
      clear hw
      by_cases hw : x.what = 7
      · obtain ⟨E, hE⟩ : ∃ E, E = s1.err x.nm := ⟨_, rfl⟩
        have HEq : Hid (pE s1 x = E) := by rw [Hid, hE]; unfold pE StepV.app; simp [hw]
        have HPs : Hid (pS s1 x = mDelete s1 x.nm) := by unfold pS StepV.app; simp [hw, Hid]
        have HC : Hid (Calls Try.prog 21 #[dp d, .string x.name] wr fun e w' => e = .returned (.int .i64 E) ∧ LPost w0 d F (pEnd s (l.take (k + 1))) w w' ∧ Touch (fun _ => False) w0 w') := by
          rw [hE]
          refine (lDel H1.out hsl x.name (by omega)).mono ?_
          rintro e w' ⟨he, hq⟩
          have hq2 := HEnd.out w' (by rw [HPs.out]; exact hq)
          obtain ⟨F', hl, _⟩ := id hq2
          exact ⟨he, hq2, hl.since⟩
        clear hE HEnd HPs H1 HX
        rw [hw] at c0
        go_wp2_with fail
        refine HC.out.mono ?_
        rintro e w2 ⟨rfl, hq, ht⟩
        have HZ : Hid (LPost w0 d F (pEnd s (l.take (k + 1))) w w2) := hq
        clear hq ht HC
        by_cases hE0 : E = 0
        · have HC2 : Hid (pCnt s (l.take (k + 1)) = C + 1) := by rw [Hid, HN2.out, HEq.out, done0, if_pos hE0]
          clear HN2
          go_wp2_with fail
          go_roundw
          case rel => exact ⟨k + 1, by go_num, by omega, by rw [HC2.out]; go_num, HZ.out⟩
          case measure => simp [intOf]; omega
        · have HC2 : Hid (pCnt s (l.take (k + 1)) = C) := by rw [Hid, HN2.out, HEq.out, done0, if_neg hE0]; rfl
          have hE1 : (E == 0) = false := by simpa using hE0
          clear HN2
          go_wp2_with fail
          go_roundw
          case rel => exact ⟨k + 1, by go_num, by omega, by rw [HC2.out], HZ.out⟩
          case measure => simp [intOf]; omega
      have hw7 : (x.what == 7) = false := by simpa using hw
      have hv7 : ¬ x.what = 7 := hw
      clear hw
      have HEq : Hid (pE s1 x = 1) := by rw [Hid]; unfold pE StepV.app; simp [hv0, hv1, hv2, hv3, hv4, hv5, hv6, hv7]
      have HPs : Hid (pS s1 x = s1) := by rw [Hid]; unfold pS StepV.app; simp [hv0, hv1, hv2, hv3, hv4, hv5, hv6, hv7]
      have HZ : Hid (LPost w0 d F (pEnd s (l.take (k + 1))) w wr) := HEnd.out wr (by rw [HPs.out]; exact ⟨F1, H1.out, Step.same (Touch.refl _ _)⟩)
      have HC2 : Hid (pCnt s (l.take (k + 1)) = C) := by rw [Hid, HN2.out, HEq.out]; rfl
      clear HN2 HEnd HPs H1 HX HEq hv0 hv1 hv2 hv3 hv4 hv5 hv6 hv7
      go_wp2_with fail
      go_roundw
      case rel => exact ⟨k + 1, by go_num, by omega, by rw [HC2.out], HZ.out⟩
      case measure => simp [intOf]; omega
    · have hke : k = l.length := by omega
      subst hke
      have HQ : Hid (LPost w0 d F (pEnd s l) w wr) := by rw [List.take_length] at hP; exact hP
      clear hP
      rw [List.take_length]
      go_wp2_with fail
      go_ret
      exact ⟨rfl, HQ.out⟩
end Go.Proofs.Ytfeojfcnphjbdaa
