/- quirelaw4.DiskRoom returns true. -/
import Derived.Test.YtahikcjgnnmnbaaKnown4
import Derived.Test.YtahikcjgnnmnbaaRoomM
namespace Go.Proofs.Ytahikcjgnnmnbaa
open Go.RowKit Go.Maps Go.Sort
set_option linter.unusedVariables false

theorem steps_touch {w W : World} {ao : Option Addr} {l : List StepV} (hS : Steps w ao l) (t : Touch (fun _ => False) w W) : Steps W ao l := by
  refine ⟨fun x hx => ?_, fun i hi => ?_⟩
  · have h := hS.ok x hx
    exact ⟨h.what, h.n, h.name, h.tgt, h.bl.keep fun e => t.block _ (h.bl.lt e) id, h.bno, h.blen, h.kl.keep fun e => t.block _ (h.kl.lt e) id, h.klen, h.kin⟩
  · obtain ⟨g, off, e, hA⟩ := hS.cells i hi
    exact ⟨g, off, e, hA.touch t⟩

set_option maxRecDepth 100000 in
set_option maxHeartbeats 12800000 in
theorem diskRoom_any (w : World) (room : Int) (hroom : -9223372036854775808 ≤ room ∧ room ≤ 9223372036854775807) (ao : Option Addr) (l : List StepV) (n0 c0 : Nat) (hn0 : n0 = l.length) (hS : Steps w ao l) (hlen : l.length ≤ 140737488355328) :
    Calls Try.prog 7 #[.int .i64 room, .slice ao n0 c0] w fun e w' => e = .returned (.bool true) ∧ Touch (fun _ => False) w w' := by
  subst hn0
  have HK : Hid (Calls Try.prog 9 #[] w fun e w' => e = .returned (.bool true) ∧ Touch (fun _ => False) w w') := known_any w
  have HSt : Hid (Steps w ao l) := hS
  have HLi : Hid (∀ W, Touch (fun _ => False) w W → Calls Try.prog 10 #[.slice ao l.length c0] W fun e w' => e = .returned (.bool (isLight l)) ∧ Touch (fun _ => False) W w') := fun W t => light_any W ao l l.length c0 rfl (steps_touch HSt.out t) hlen
  clear hS
  cases hli : isLight l with
  | false =>
    rw [hli] at HLi
    go_enter Try.func7, Try.ntmps7
    go_wp2_with fail
    refine HK.out.mono ?_
    rintro e w1 ⟨rfl, hT1⟩
    have HT1 : Hid (Touch (fun _ => False) w w1) := hT1
    clear hT1 HK
    go_wp2_with fail
    refine (HLi.out w1 HT1.out).mono ?_
    rintro e w2 ⟨rfl, hT2⟩
    have HT2 : Hid (Touch (fun _ => False) w w2) := HT1.out.trans hT2
    clear hT2 HLi
    go_wp2_with fail
    go_ret
    exact ⟨rfl, HT2.out⟩
  | true =>
    rw [hli] at HLi
    have hl3 : l.length ≤ 300 := by unfold isLight at hli; simp at hli; exact hli.1
    obtain ⟨c, hc, hpl⟩ := place_nat room 200 (by decide)
    have HPl : Hid (∀ W, Calls Try.prog 38 #[.int .i64 room, .int .i64 200] W fun e w' => e = .returned (.int .i64 (c : Int)) ∧ w' = W) := by
      intro W
      have := place_any room ((200 : Nat) : Int) hroom (by decide) W
      rw [hpl] at this
      exact this
    have HN : Hid (∀ W, Calls Try.prog 11 #[.int .i64 (c : Int)] W fun e w' => ∃ d F, e = .returned (dp d) ∧ Live W w' d F (newSt (c : Int))) := fun W => lNew (c : Int) (by omega) W
    have HI0 : Hid (RI c 0 (newSt (c : Int))) := ⟨rfl, by show max (c : Int) 0 = c; omega, by simp [newSt, St.used, asum], by simp [newSt]⟩
    clear hpl
    go_enter Try.func7, Try.ntmps7
    go_wp2_with fail
    refine HK.out.mono ?_
    rintro e w1 ⟨rfl, hT1⟩
    have HT1 : Hid (Touch (fun _ => False) w w1) := hT1
    clear hT1 HK
    go_wp2_with fail
    refine (HLi.out w1 HT1.out).mono ?_
    rintro e w2 ⟨rfl, hT2⟩
    have HT2 : Hid (Touch (fun _ => False) w w2) := HT1.out.trans hT2
    have HS2 : Hid (Steps w2 ao l) := steps_touch HSt.out HT2.out
    clear hT2 HLi HT1 HSt
    go_wp2_with fail
    refine (HPl.out _).mono ?_
    rintro e w3 ⟨rfl, hw⟩
    rw [hw]; clear hw HPl
    go_wp2_with fail
    refine (HN.out w2).mono ?_
    rintro e w3 ⟨d, F3, rfl, hd⟩
    have H3 : Hid (Live w2 w3 d F3 (newSt (c : Int))) := hd
    clear hd HN
    go_wp2_with fail
    go_loopw [6] (fun b wr => ∃ k : Nat, b = .int .i64 (k : Int) ∧ k ≤ l.length ∧ ∃ s F, Live w2 wr d F s ∧ RI c k s) (fun b _ => (l.length - intOf b).toNat)
    case atStart => exact ⟨0, rfl, Nat.zero_le _, _, _, H3.out, HI0.out⟩
    case round =>
      obtain ⟨k, rfl, hk, s, F, hL, hI⟩ := hrel
      by_cases hlt : k < l.length
      · obtain ⟨g, off, rfl, hA⟩ := HS2.out.cells k hlt
        have hA2 := hA.touch hL.since
        have hok := HS2.out.ok l[k] (List.getElem_mem hlt)
        have HN1 : Hid (RI c (k + 1) (rS s l[k])) := hI.step hL.rising (by omega) l[k]
        have hsl : s.fs.length ≤ 1073741823 := by have := hI.len; omega
        have hu := hI.used
        have HIc : Hid (appE s l[k].nm l[k].b = 0 ↔ (isNm l[k].nm = true ∧ s.used + l[k].b.length ≤ c)) := hI.appE (by omega) l[k].nm l[k].b
        have HI : Hid (RI c k s) := hI
        have HL : Hid (Live w2 wr d F s) := hL
        have HX : Hid (StepOk w2 l[k]) := hok
        have z2 := hok.name
        have z3 := hok.tgt
        have z4 := hok.blen
        have z5 := hok.klen
        have a0 := hA2.c0
        have a1 := hA2.c1
        have a2 := hA2.c2
        have a3 := hA2.c3
        have a4 := hA2.c4
        have a5 := hA2.c5
        clear hA hA2 hok hI hL H3 HI0 HT2
        generalize l[k] = x at *
        have HW1 : Hid (Live w2 (wr.alloc (.cells #[.int .i64 x.what, .int .i64 x.n, .string x.name, .string x.tgt, .slice x.bo x.b.length x.bcap, .slice x.ko x.keep.length x.kcap] 32)) d F s) := HL.out.touch ((Touch.refl _ wr).alloc _)
        have HB1 : Hid (Free F (wr.alloc (.cells #[.int .i64 x.what, .int .i64 x.n, .string x.name, .string x.tgt, .slice x.bo x.b.length x.bcap, .slice x.ko x.keep.length x.kcap] 32)) wr.heap.size ∧ (wr.alloc (.cells #[.int .i64 x.what, .int .i64 x.n, .string x.name, .string x.tgt, .slice x.bo x.b.length x.bcap, .slice x.ko x.keep.length x.kcap] 32)).heap[wr.heap.size]? = some (.cells #[.int .i64 x.what, .int .i64 x.n, .string x.name, .string x.tgt, .slice x.bo x.b.length x.bcap, .slice x.ko x.keep.length x.kcap] 32 (0, 0))) := ⟨HL.out.free (by simp) (Nat.le_refl _) (lt_of_heap (heap_alloc_new _ _)), heap_alloc_new _ _⟩
        obtain ⟨U, hU⟩ : ∃ U, U = s.used := ⟨_, rfl⟩
        have HUs : Hid (s.used = U) := hU.symm
        rw [← hU] at hu HIc
        clear hU
        by_cases hw : x.what = 0
        · by_cases f1 : U + x.b.length ≤ c
          · have g1 : (U : Int) + (x.b.length : Int) ≤ (c : Int) := by omega
            by_cases f2 : 1 ≤ x.name.size
            · by_cases f3 : x.name.size ≤ 32
              · rw [hw] at a0
                have HRS : Hid (rS s x = mAppend s x.nm x.b) := by unfold rS StepV.app; simp [hw, Hid]
                rw [HRS.out] at HN1
                obtain ⟨was, hwas⟩ : ∃ was, Hid (was = mRead s x.nm) := ⟨_, rfl⟩
                obtain ⟨er, her⟩ : ∃ er, Hid (er = s.err x.nm) := ⟨_, rfl⟩
                obtain ⟨E, hE⟩ : ∃ E, Hid (E = appE s x.nm x.b) := ⟨_, rfl⟩
                rw [← hE.out] at HIc
                have HIc : Hid (E = 0 ↔ (isNm x.nm = true ∧ U + x.b.length ≤ c)) := HIc
                have HR : Hid (Calls Try.prog 25 #[dp d, .string x.name] (wr.alloc (.cells #[.int .i64 x.what, .int .i64 x.n, .string x.name, .string x.tgt, .slice x.bo x.b.length x.bcap, .slice x.ko x.keep.length x.kcap] 32)) fun e w' => (∃ ro rc rg, e = .returned (.tuple #[.slice ro was.length rc, .int .i64 er]) ∧ LF F w' rg ro was) ∧ Live w2 w' d F s ∧ Touch (fun _ => False) (wr.alloc (.cells #[.int .i64 x.what, .int .i64 x.n, .string x.name, .string x.tgt, .slice x.bo x.b.length x.bcap, .slice x.ko x.keep.length x.kcap] 32)) w') := by
                  refine (lRead HW1.out hsl x.name (by omega)).mono ?_
                  rintro e w' ⟨⟨v, rfl, hrow⟩, h2, t⟩
                  obtain ⟨ro, rc, rg, rfl, hl, _⟩ := HW1.out.read t.size hrow
                  rw [hwas.out, her.out]
                  exact ⟨⟨ro, rc, rg, rfl, hl⟩, h2, t⟩
                rw [hw] at HR HB1
                go_wp2_with fail
                refine HR.out.mono ?_
                rintro e w3a ⟨⟨ro, rc, rg, rfl, hwl⟩, h2, t2⟩
                have HB2 : Hid (Free F w3a wr.heap.size ∧ w3a.heap[wr.heap.size]? = some (.cells #[.int .i64 0, .int .i64 x.n, .string x.name, .string x.tgt, .slice x.bo x.b.length x.bcap, .slice x.ko x.keep.length x.kcap] 32 (0, 0))) := ⟨HB1.out.1.touch t2, (t2.block _ HB1.out.1.lt id).trans HB1.out.2⟩
                have HWL : Hid (LF F w3a rg ro was) := hwl
                have HW2 : Hid (Live w2 w3a d F s) := h2
                have k22 : w3a.cell? ⟨wr.heap.size, 2, none⟩ = some (.string x.name) := by rw [cell_of_block HB2.out.2]; rfl
                have k42 : w3a.cell? ⟨wr.heap.size, 4, none⟩ = some (.slice x.bo x.b.length x.bcap) := by rw [cell_of_block HB2.out.2]; rfl
                have HX2 := lUsed HW2.out
                have HU2 : Hid (Calls Try.prog 40 #[dp d] w3a fun e w' => e = .returned (.int .i64 (U : Int)) ∧ w' = w3a) := by rw [HUs.out] at HX2; exact HX2
                have HA2 : Hid (Calls Try.prog 14 #[dp d, .string x.name, .slice x.bo x.b.length x.bcap] w3a fun e w' => e = .returned (.int .i64 E) ∧ LPost w2 d F (mAppend s x.nm x.b) w3a w') := by
                  rw [hE.out]
                  exact lAppend HW2.out hsl x.name (by omega) x.bg x.bo x.b x.b.length x.bcap rfl HX.out.bno (HX.out.bl.keep fun e => (HW2.out.since.block x.bg (HX.out.bl.lt e) id)) HX.out.blen
                clear HX2 hwl h2 t2 HR HW1 HB1
                go_wp2_with fail
                refine HU2.out.mono ?_
                rintro e w3b ⟨rfl, hw2⟩
                rw [hw2]; clear hw2
                go_wp2_with fail
                refine HA2.out.mono ?_
                rintro e w3c ⟨rfl, F4, h3, hs⟩
                have HB3 : Hid (Free F4 w3c wr.heap.size ∧ w3c.heap[wr.heap.size]? = some (.cells #[.int .i64 0, .int .i64 x.n, .string x.name, .string x.tgt, .slice x.bo x.b.length x.bcap, .slice x.ko x.keep.length x.kcap] 32 (0, 0))) := ⟨HB2.out.1.step hs, (HB2.out.1.same hs).trans HB2.out.2⟩
                have HWL3 : Hid (LF F4 w3c rg ro was) := HWL.out.step hs
                have HW3 : Hid (Live w2 w3c d F4 (mAppend s x.nm x.b)) := h3
                obtain ⟨now, hnow⟩ : ∃ now, Hid (now = mRead (mAppend s x.nm x.b) x.nm) := ⟨_, rfl⟩
                obtain ⟨er2, her2⟩ : ∃ er2, Hid (er2 = (mAppend s x.nm x.b).err x.nm) := ⟨_, rfl⟩
                have hsl2 : (mAppend s x.nm x.b).fs.length ≤ 1073741823 := by have := HN1.out.len; omega
                have k23 : w3c.cell? ⟨wr.heap.size, 2, none⟩ = some (.string x.name) := by rw [cell_of_block HB3.out.2]; rfl
                have k43 : w3c.cell? ⟨wr.heap.size, 4, none⟩ = some (.slice x.bo x.b.length x.bcap) := by rw [cell_of_block HB3.out.2]; rfl
                have HR3 : Hid (Calls Try.prog 25 #[dp d, .string x.name] w3c fun e w' => (∃ ro rc rg, e = .returned (.tuple #[.slice ro now.length rc, .int .i64 er2]) ∧ LF F4 w' rg ro now) ∧ Live w2 w' d F4 (mAppend s x.nm x.b) ∧ Touch (fun _ => False) w3c w') := by
                  refine (lRead HW3.out hsl2 x.name (by omega)).mono ?_
                  rintro e w' ⟨⟨v, rfl, hrow⟩, h2, t⟩
                  obtain ⟨ro, rc, rg, rfl, hl, _⟩ := HW3.out.read t.size hrow
                  rw [hnow.out, her2.out]
                  exact ⟨⟨ro, rc, rg, rfl, hl⟩, h2, t⟩
                clear h3 hs HB2 HWL HW2 HU2 HA2 k22 k42
                go_wp2_with fail
                refine HR3.out.mono ?_
                rintro e w4 ⟨⟨so, sc, sg, rfl, hnl⟩, h4, t4⟩
                have HB4 : Hid (Free F4 w4 wr.heap.size ∧ w4.heap[wr.heap.size]? = some (.cells #[.int .i64 0, .int .i64 x.n, .string x.name, .string x.tgt, .slice x.bo x.b.length x.bcap, .slice x.ko x.keep.length x.kcap] 32 (0, 0))) := ⟨HB3.out.1.touch t4, (t4.block _ HB3.out.1.lt id).trans HB3.out.2⟩
                have HWL4 : Hid (LF F4 w4 rg ro was ∧ LF F4 w4 sg so now) := ⟨HWL3.out.touch t4, hnl⟩
                have HW4 : Hid (Live w2 w4 d F4 (mAppend s x.nm x.b)) := h4
                obtain ⟨U2, hU2⟩ : ∃ U2, Hid (U2 = (mAppend s x.nm x.b).used) := ⟨_, rfl⟩
                have k24 : w4.cell? ⟨wr.heap.size, 2, none⟩ = some (.string x.name) := by rw [cell_of_block HB4.out.2]; rfl
                have k44 : w4.cell? ⟨wr.heap.size, 4, none⟩ = some (.slice x.bo x.b.length x.bcap) := by rw [cell_of_block HB4.out.2]; rfl
                have HX2 := lUsed HW4.out
                have HU4 : Hid (Calls Try.prog 40 #[dp d] w4 fun e w' => e = .returned (.int .i64 (U2 : Int)) ∧ w' = w4) := by rw [← hU2.out] at HX2; exact HX2
                have hu2 : U2 ≤ c := by rw [hU2.out]; exact HN1.out.used
                have HEnd : Hid (∃ s F, Live w2 w4 d F s ∧ RI c (k + 1) s) := ⟨_, _, HW4.out, HN1.out⟩
                have hzn : (x.nm).length = x.name.size := by unfold StepV.nm; rw [Array.length_toList]; rfl
                have hE0 : E = 0 := HIc.out.2 ⟨by unfold isNm; rw [hzn]; simp; omega, by omega⟩
                have hnl2 : now.length = was.length + x.b.length := by rw [hnow.out, hwas.out, read_app HI.out.power _ _ (hE.out.symm.trans hE0), List.length_append]
                have hnI : (now.length : Int) = (was.length : Int) + (x.b.length : Int) := by omega
                have hwb : was.length ≤ 200 := by rw [hwas.out, read_at HI.out.power]; have := at_le (s := s) x.nm; have := HI.out.used; omega
                subst hE0
                clear h4 t4 hnl HB3 HWL3 HW3 HR3 k23 k43 hnow hwas her her2 HX2 hU2 hE HIc hzn hnl2 HRS
                go_wp2_with fail
                refine HU4.out.mono ?_
                rintro e w5 ⟨rfl, hw⟩
                rw [hw]; clear hw
                go_wp2_with fail
                go_roundw
                case rel => exact ⟨k + 1, by go_num, by omega, HEnd.out⟩
                case measure => simp [intOf]; omega
              · rw [hw] at a0
                have HRS : Hid (rS s x = mAppend s x.nm x.b) := by unfold rS StepV.app; simp [hw, Hid]
                rw [HRS.out] at HN1
                obtain ⟨was, hwas⟩ : ∃ was, Hid (was = mRead s x.nm) := ⟨_, rfl⟩
                obtain ⟨er, her⟩ : ∃ er, Hid (er = s.err x.nm) := ⟨_, rfl⟩
                obtain ⟨E, hE⟩ : ∃ E, Hid (E = appE s x.nm x.b) := ⟨_, rfl⟩
                rw [← hE.out] at HIc
                have HIc : Hid (E = 0 ↔ (isNm x.nm = true ∧ U + x.b.length ≤ c)) := HIc
                have HR : Hid (Calls Try.prog 25 #[dp d, .string x.name] (wr.alloc (.cells #[.int .i64 x.what, .int .i64 x.n, .string x.name, .string x.tgt, .slice x.bo x.b.length x.bcap, .slice x.ko x.keep.length x.kcap] 32)) fun e w' => (∃ ro rc rg, e = .returned (.tuple #[.slice ro was.length rc, .int .i64 er]) ∧ LF F w' rg ro was) ∧ Live w2 w' d F s ∧ Touch (fun _ => False) (wr.alloc (.cells #[.int .i64 x.what, .int .i64 x.n, .string x.name, .string x.tgt, .slice x.bo x.b.length x.bcap, .slice x.ko x.keep.length x.kcap] 32)) w') := by
                  refine (lRead HW1.out hsl x.name (by omega)).mono ?_
                  rintro e w' ⟨⟨v, rfl, hrow⟩, h2, t⟩
                  obtain ⟨ro, rc, rg, rfl, hl, _⟩ := HW1.out.read t.size hrow
                  rw [hwas.out, her.out]
                  exact ⟨⟨ro, rc, rg, rfl, hl⟩, h2, t⟩
                rw [hw] at HR HB1
                go_wp2_with fail
                refine HR.out.mono ?_
                rintro e w3a ⟨⟨ro, rc, rg, rfl, hwl⟩, h2, t2⟩
                have HB2 : Hid (Free F w3a wr.heap.size ∧ w3a.heap[wr.heap.size]? = some (.cells #[.int .i64 0, .int .i64 x.n, .string x.name, .string x.tgt, .slice x.bo x.b.length x.bcap, .slice x.ko x.keep.length x.kcap] 32 (0, 0))) := ⟨HB1.out.1.touch t2, (t2.block _ HB1.out.1.lt id).trans HB1.out.2⟩
                have HWL : Hid (LF F w3a rg ro was) := hwl
                have HW2 : Hid (Live w2 w3a d F s) := h2
                have k22 : w3a.cell? ⟨wr.heap.size, 2, none⟩ = some (.string x.name) := by rw [cell_of_block HB2.out.2]; rfl
                have k42 : w3a.cell? ⟨wr.heap.size, 4, none⟩ = some (.slice x.bo x.b.length x.bcap) := by rw [cell_of_block HB2.out.2]; rfl
                have HX2 := lUsed HW2.out
                have HU2 : Hid (Calls Try.prog 40 #[dp d] w3a fun e w' => e = .returned (.int .i64 (U : Int)) ∧ w' = w3a) := by rw [HUs.out] at HX2; exact HX2
                have HA2 : Hid (Calls Try.prog 14 #[dp d, .string x.name, .slice x.bo x.b.length x.bcap] w3a fun e w' => e = .returned (.int .i64 E) ∧ LPost w2 d F (mAppend s x.nm x.b) w3a w') := by
                  rw [hE.out]
                  exact lAppend HW2.out hsl x.name (by omega) x.bg x.bo x.b x.b.length x.bcap rfl HX.out.bno (HX.out.bl.keep fun e => (HW2.out.since.block x.bg (HX.out.bl.lt e) id)) HX.out.blen
                clear HX2 hwl h2 t2 HR HW1 HB1
                go_wp2_with fail
                refine HU2.out.mono ?_
                rintro e w3b ⟨rfl, hw2⟩
                rw [hw2]; clear hw2
                go_wp2_with fail
                refine HA2.out.mono ?_
                rintro e w3c ⟨rfl, F4, h3, hs⟩
                have HB3 : Hid (Free F4 w3c wr.heap.size ∧ w3c.heap[wr.heap.size]? = some (.cells #[.int .i64 0, .int .i64 x.n, .string x.name, .string x.tgt, .slice x.bo x.b.length x.bcap, .slice x.ko x.keep.length x.kcap] 32 (0, 0))) := ⟨HB2.out.1.step hs, (HB2.out.1.same hs).trans HB2.out.2⟩
                have HWL3 : Hid (LF F4 w3c rg ro was) := HWL.out.step hs
                have HW3 : Hid (Live w2 w3c d F4 (mAppend s x.nm x.b)) := h3
                obtain ⟨now, hnow⟩ : ∃ now, Hid (now = mRead (mAppend s x.nm x.b) x.nm) := ⟨_, rfl⟩
                obtain ⟨er2, her2⟩ : ∃ er2, Hid (er2 = (mAppend s x.nm x.b).err x.nm) := ⟨_, rfl⟩
                have hsl2 : (mAppend s x.nm x.b).fs.length ≤ 1073741823 := by have := HN1.out.len; omega
                have k23 : w3c.cell? ⟨wr.heap.size, 2, none⟩ = some (.string x.name) := by rw [cell_of_block HB3.out.2]; rfl
                have k43 : w3c.cell? ⟨wr.heap.size, 4, none⟩ = some (.slice x.bo x.b.length x.bcap) := by rw [cell_of_block HB3.out.2]; rfl
                have HR3 : Hid (Calls Try.prog 25 #[dp d, .string x.name] w3c fun e w' => (∃ ro rc rg, e = .returned (.tuple #[.slice ro now.length rc, .int .i64 er2]) ∧ LF F4 w' rg ro now) ∧ Live w2 w' d F4 (mAppend s x.nm x.b) ∧ Touch (fun _ => False) w3c w') := by
                  refine (lRead HW3.out hsl2 x.name (by omega)).mono ?_
                  rintro e w' ⟨⟨v, rfl, hrow⟩, h2, t⟩
                  obtain ⟨ro, rc, rg, rfl, hl, _⟩ := HW3.out.read t.size hrow
                  rw [hnow.out, her2.out]
                  exact ⟨⟨ro, rc, rg, rfl, hl⟩, h2, t⟩
                clear h3 hs HB2 HWL HW2 HU2 HA2 k22 k42
                go_wp2_with fail
                refine HR3.out.mono ?_
                rintro e w4 ⟨⟨so, sc, sg, rfl, hnl⟩, h4, t4⟩
                have HB4 : Hid (Free F4 w4 wr.heap.size ∧ w4.heap[wr.heap.size]? = some (.cells #[.int .i64 0, .int .i64 x.n, .string x.name, .string x.tgt, .slice x.bo x.b.length x.bcap, .slice x.ko x.keep.length x.kcap] 32 (0, 0))) := ⟨HB3.out.1.touch t4, (t4.block _ HB3.out.1.lt id).trans HB3.out.2⟩
                have HWL4 : Hid (LF F4 w4 rg ro was ∧ LF F4 w4 sg so now) := ⟨HWL3.out.touch t4, hnl⟩
                have HW4 : Hid (Live w2 w4 d F4 (mAppend s x.nm x.b)) := h4
                obtain ⟨U2, hU2⟩ : ∃ U2, Hid (U2 = (mAppend s x.nm x.b).used) := ⟨_, rfl⟩
                have k24 : w4.cell? ⟨wr.heap.size, 2, none⟩ = some (.string x.name) := by rw [cell_of_block HB4.out.2]; rfl
                have k44 : w4.cell? ⟨wr.heap.size, 4, none⟩ = some (.slice x.bo x.b.length x.bcap) := by rw [cell_of_block HB4.out.2]; rfl
                have HX2 := lUsed HW4.out
                have HU4 : Hid (Calls Try.prog 40 #[dp d] w4 fun e w' => e = .returned (.int .i64 (U2 : Int)) ∧ w' = w4) := by rw [← hU2.out] at HX2; exact HX2
                have hu2 : U2 ≤ c := by rw [hU2.out]; exact HN1.out.used
                have HEnd : Hid (∃ s F, Live w2 w4 d F s ∧ RI c (k + 1) s) := ⟨_, _, HW4.out, HN1.out⟩
                have hzn : (x.nm).length = x.name.size := by unfold StepV.nm; rw [Array.length_toList]; rfl
                have hEn : E ≠ 0 := fun h0 => by
                  have := HIc.out.1 h0
                  unfold isNm at this
                  rw [hzn] at this
                  simp at this
                  omega
                have hE1 : (E == 0) = false := by simpa using hEn
                have hms : mAppend s x.nm x.b = s := by unfold mAppend; rw [if_neg (by rw [← hE.out]; exact hEn)]
                have hnw : now = was := by rw [hnow.out, hwas.out, hms]
                have hee : er2 = er := by rw [her2.out, her.out, hms]
                have hUU : U2 = U := by rw [hU2.out, hms]; exact HUs.out
                have HBy : Hid (Calls Try.prog 27 #[.slice ro was.length rc, .slice so now.length sc] w4 fun e w' => e = .returned (.bool true) ∧ w' = w4) := by
                  have := help_bytes rg sg ro so was now was.length now.length rc sc rfl rfl w4 HWL4.out.1.lies HWL4.out.2.lies
                  rw [show (was == now) = true from by rw [hnw]; simp] at this
                  exact this
                clear h4 t4 hnl HB3 HWL3 HW3 HR3 k23 k43 hnow hwas her her2 HX2 hU2 hE HIc hzn HRS hms HWL4
                subst hnw hee hUU
                go_wp2_with fail
                refine HBy.out.mono ?_
                rintro e w5 ⟨rfl, hw5⟩
                rw [hw5]; clear hw5
                go_wp2_with fail
                refine HU4.out.mono ?_
                rintro e w5 ⟨rfl, hw⟩
                rw [hw]; clear hw
                go_wp2_with fail
                refine HU4.out.mono ?_
                rintro e w5 ⟨rfl, hw⟩
                rw [hw]; clear hw
                go_wp2_with fail
                go_roundw
                case rel => exact ⟨k + 1, by go_num, by omega, HEnd.out⟩
                case measure => simp [intOf]; omega
            · rw [hw] at a0
              have HRS : Hid (rS s x = mAppend s x.nm x.b) := by unfold rS StepV.app; simp [hw, Hid]
              rw [HRS.out] at HN1
              obtain ⟨was, hwas⟩ : ∃ was, Hid (was = mRead s x.nm) := ⟨_, rfl⟩
              obtain ⟨er, her⟩ : ∃ er, Hid (er = s.err x.nm) := ⟨_, rfl⟩
              obtain ⟨E, hE⟩ : ∃ E, Hid (E = appE s x.nm x.b) := ⟨_, rfl⟩
              rw [← hE.out] at HIc
              have HIc : Hid (E = 0 ↔ (isNm x.nm = true ∧ U + x.b.length ≤ c)) := HIc
              have HR : Hid (Calls Try.prog 25 #[dp d, .string x.name] (wr.alloc (.cells #[.int .i64 x.what, .int .i64 x.n, .string x.name, .string x.tgt, .slice x.bo x.b.length x.bcap, .slice x.ko x.keep.length x.kcap] 32)) fun e w' => (∃ ro rc rg, e = .returned (.tuple #[.slice ro was.length rc, .int .i64 er]) ∧ LF F w' rg ro was) ∧ Live w2 w' d F s ∧ Touch (fun _ => False) (wr.alloc (.cells #[.int .i64 x.what, .int .i64 x.n, .string x.name, .string x.tgt, .slice x.bo x.b.length x.bcap, .slice x.ko x.keep.length x.kcap] 32)) w') := by
                refine (lRead HW1.out hsl x.name (by omega)).mono ?_
                rintro e w' ⟨⟨v, rfl, hrow⟩, h2, t⟩
                obtain ⟨ro, rc, rg, rfl, hl, _⟩ := HW1.out.read t.size hrow
                rw [hwas.out, her.out]
                exact ⟨⟨ro, rc, rg, rfl, hl⟩, h2, t⟩
              rw [hw] at HR HB1
              go_wp2_with fail
              refine HR.out.mono ?_
              rintro e w3a ⟨⟨ro, rc, rg, rfl, hwl⟩, h2, t2⟩
              have HB2 : Hid (Free F w3a wr.heap.size ∧ w3a.heap[wr.heap.size]? = some (.cells #[.int .i64 0, .int .i64 x.n, .string x.name, .string x.tgt, .slice x.bo x.b.length x.bcap, .slice x.ko x.keep.length x.kcap] 32 (0, 0))) := ⟨HB1.out.1.touch t2, (t2.block _ HB1.out.1.lt id).trans HB1.out.2⟩
              have HWL : Hid (LF F w3a rg ro was) := hwl
              have HW2 : Hid (Live w2 w3a d F s) := h2
              have k22 : w3a.cell? ⟨wr.heap.size, 2, none⟩ = some (.string x.name) := by rw [cell_of_block HB2.out.2]; rfl
              have k42 : w3a.cell? ⟨wr.heap.size, 4, none⟩ = some (.slice x.bo x.b.length x.bcap) := by rw [cell_of_block HB2.out.2]; rfl
              have HX2 := lUsed HW2.out
              have HU2 : Hid (Calls Try.prog 40 #[dp d] w3a fun e w' => e = .returned (.int .i64 (U : Int)) ∧ w' = w3a) := by rw [HUs.out] at HX2; exact HX2
              have HA2 : Hid (Calls Try.prog 14 #[dp d, .string x.name, .slice x.bo x.b.length x.bcap] w3a fun e w' => e = .returned (.int .i64 E) ∧ LPost w2 d F (mAppend s x.nm x.b) w3a w') := by
                rw [hE.out]
                exact lAppend HW2.out hsl x.name (by omega) x.bg x.bo x.b x.b.length x.bcap rfl HX.out.bno (HX.out.bl.keep fun e => (HW2.out.since.block x.bg (HX.out.bl.lt e) id)) HX.out.blen
              clear HX2 hwl h2 t2 HR HW1 HB1
              go_wp2_with fail
              refine HU2.out.mono ?_
              rintro e w3b ⟨rfl, hw2⟩
              rw [hw2]; clear hw2
              go_wp2_with fail
              refine HA2.out.mono ?_
              rintro e w3c ⟨rfl, F4, h3, hs⟩
              have HB3 : Hid (Free F4 w3c wr.heap.size ∧ w3c.heap[wr.heap.size]? = some (.cells #[.int .i64 0, .int .i64 x.n, .string x.name, .string x.tgt, .slice x.bo x.b.length x.bcap, .slice x.ko x.keep.length x.kcap] 32 (0, 0))) := ⟨HB2.out.1.step hs, (HB2.out.1.same hs).trans HB2.out.2⟩
              have HWL3 : Hid (LF F4 w3c rg ro was) := HWL.out.step hs
              have HW3 : Hid (Live w2 w3c d F4 (mAppend s x.nm x.b)) := h3
              obtain ⟨now, hnow⟩ : ∃ now, Hid (now = mRead (mAppend s x.nm x.b) x.nm) := ⟨_, rfl⟩
              obtain ⟨er2, her2⟩ : ∃ er2, Hid (er2 = (mAppend s x.nm x.b).err x.nm) := ⟨_, rfl⟩
              have hsl2 : (mAppend s x.nm x.b).fs.length ≤ 1073741823 := by have := HN1.out.len; omega
              have k23 : w3c.cell? ⟨wr.heap.size, 2, none⟩ = some (.string x.name) := by rw [cell_of_block HB3.out.2]; rfl
              have k43 : w3c.cell? ⟨wr.heap.size, 4, none⟩ = some (.slice x.bo x.b.length x.bcap) := by rw [cell_of_block HB3.out.2]; rfl
              have HR3 : Hid (Calls Try.prog 25 #[dp d, .string x.name] w3c fun e w' => (∃ ro rc rg, e = .returned (.tuple #[.slice ro now.length rc, .int .i64 er2]) ∧ LF F4 w' rg ro now) ∧ Live w2 w' d F4 (mAppend s x.nm x.b) ∧ Touch (fun _ => False) w3c w') := by
                refine (lRead HW3.out hsl2 x.name (by omega)).mono ?_
                rintro e w' ⟨⟨v, rfl, hrow⟩, h2, t⟩
                obtain ⟨ro, rc, rg, rfl, hl, _⟩ := HW3.out.read t.size hrow
                rw [hnow.out, her2.out]
                exact ⟨⟨ro, rc, rg, rfl, hl⟩, h2, t⟩
              clear h3 hs HB2 HWL HW2 HU2 HA2 k22 k42
              go_wp2_with fail
              refine HR3.out.mono ?_
              rintro e w4 ⟨⟨so, sc, sg, rfl, hnl⟩, h4, t4⟩
              have HB4 : Hid (Free F4 w4 wr.heap.size ∧ w4.heap[wr.heap.size]? = some (.cells #[.int .i64 0, .int .i64 x.n, .string x.name, .string x.tgt, .slice x.bo x.b.length x.bcap, .slice x.ko x.keep.length x.kcap] 32 (0, 0))) := ⟨HB3.out.1.touch t4, (t4.block _ HB3.out.1.lt id).trans HB3.out.2⟩
              have HWL4 : Hid (LF F4 w4 rg ro was ∧ LF F4 w4 sg so now) := ⟨HWL3.out.touch t4, hnl⟩
              have HW4 : Hid (Live w2 w4 d F4 (mAppend s x.nm x.b)) := h4
              obtain ⟨U2, hU2⟩ : ∃ U2, Hid (U2 = (mAppend s x.nm x.b).used) := ⟨_, rfl⟩
              have k24 : w4.cell? ⟨wr.heap.size, 2, none⟩ = some (.string x.name) := by rw [cell_of_block HB4.out.2]; rfl
              have k44 : w4.cell? ⟨wr.heap.size, 4, none⟩ = some (.slice x.bo x.b.length x.bcap) := by rw [cell_of_block HB4.out.2]; rfl
              have HX2 := lUsed HW4.out
              have HU4 : Hid (Calls Try.prog 40 #[dp d] w4 fun e w' => e = .returned (.int .i64 (U2 : Int)) ∧ w' = w4) := by rw [← hU2.out] at HX2; exact HX2
              have hu2 : U2 ≤ c := by rw [hU2.out]; exact HN1.out.used
              have HEnd : Hid (∃ s F, Live w2 w4 d F s ∧ RI c (k + 1) s) := ⟨_, _, HW4.out, HN1.out⟩
              have hzn : (x.nm).length = x.name.size := by unfold StepV.nm; rw [Array.length_toList]; rfl
              have hEn : E ≠ 0 := fun h0 => by
                have := HIc.out.1 h0
                unfold isNm at this
                rw [hzn] at this
                simp at this
                omega
              have hE1 : (E == 0) = false := by simpa using hEn
              have hms : mAppend s x.nm x.b = s := by unfold mAppend; rw [if_neg (by rw [← hE.out]; exact hEn)]
              have hnw : now = was := by rw [hnow.out, hwas.out, hms]
              have hee : er2 = er := by rw [her2.out, her.out, hms]
              have hUU : U2 = U := by rw [hU2.out, hms]; exact HUs.out
              have HBy : Hid (Calls Try.prog 27 #[.slice ro was.length rc, .slice so now.length sc] w4 fun e w' => e = .returned (.bool true) ∧ w' = w4) := by
                have := help_bytes rg sg ro so was now was.length now.length rc sc rfl rfl w4 HWL4.out.1.lies HWL4.out.2.lies
                rw [show (was == now) = true from by rw [hnw]; simp] at this
                exact this
              clear h4 t4 hnl HB3 HWL3 HW3 HR3 k23 k43 hnow hwas her her2 HX2 hU2 hE HIc hzn HRS hms HWL4
              subst hnw hee hUU
              go_wp2_with fail
              refine HBy.out.mono ?_
              rintro e w5 ⟨rfl, hw5⟩
              rw [hw5]; clear hw5
              go_wp2_with fail
              refine HU4.out.mono ?_
              rintro e w5 ⟨rfl, hw⟩
              rw [hw]; clear hw
              go_wp2_with fail
              refine HU4.out.mono ?_
              rintro e w5 ⟨rfl, hw⟩
              rw [hw]; clear hw
              go_wp2_with fail
              go_roundw
              case rel => exact ⟨k + 1, by go_num, by omega, HEnd.out⟩
              case measure => simp [intOf]; omega
          · have g1 : decide ((U : Int) + (x.b.length : Int) ≤ (c : Int)) = false := by simp; omega
            rw [hw] at a0
            have HRS : Hid (rS s x = mAppend s x.nm x.b) := by unfold rS StepV.app; simp [hw, Hid]
            rw [HRS.out] at HN1
            obtain ⟨was, hwas⟩ : ∃ was, Hid (was = mRead s x.nm) := ⟨_, rfl⟩
            obtain ⟨er, her⟩ : ∃ er, Hid (er = s.err x.nm) := ⟨_, rfl⟩
            obtain ⟨E, hE⟩ : ∃ E, Hid (E = appE s x.nm x.b) := ⟨_, rfl⟩
            rw [← hE.out] at HIc
            have HIc : Hid (E = 0 ↔ (isNm x.nm = true ∧ U + x.b.length ≤ c)) := HIc
            have HR : Hid (Calls Try.prog 25 #[dp d, .string x.name] (wr.alloc (.cells #[.int .i64 x.what, .int .i64 x.n, .string x.name, .string x.tgt, .slice x.bo x.b.length x.bcap, .slice x.ko x.keep.length x.kcap] 32)) fun e w' => (∃ ro rc rg, e = .returned (.tuple #[.slice ro was.length rc, .int .i64 er]) ∧ LF F w' rg ro was) ∧ Live w2 w' d F s ∧ Touch (fun _ => False) (wr.alloc (.cells #[.int .i64 x.what, .int .i64 x.n, .string x.name, .string x.tgt, .slice x.bo x.b.length x.bcap, .slice x.ko x.keep.length x.kcap] 32)) w') := by
              refine (lRead HW1.out hsl x.name (by omega)).mono ?_
              rintro e w' ⟨⟨v, rfl, hrow⟩, h2, t⟩
              obtain ⟨ro, rc, rg, rfl, hl, _⟩ := HW1.out.read t.size hrow
              rw [hwas.out, her.out]
              exact ⟨⟨ro, rc, rg, rfl, hl⟩, h2, t⟩
            rw [hw] at HR HB1
            go_wp2_with fail
            refine HR.out.mono ?_
            rintro e w3a ⟨⟨ro, rc, rg, rfl, hwl⟩, h2, t2⟩
            have HB2 : Hid (Free F w3a wr.heap.size ∧ w3a.heap[wr.heap.size]? = some (.cells #[.int .i64 0, .int .i64 x.n, .string x.name, .string x.tgt, .slice x.bo x.b.length x.bcap, .slice x.ko x.keep.length x.kcap] 32 (0, 0))) := ⟨HB1.out.1.touch t2, (t2.block _ HB1.out.1.lt id).trans HB1.out.2⟩
            have HWL : Hid (LF F w3a rg ro was) := hwl
            have HW2 : Hid (Live w2 w3a d F s) := h2
            have k22 : w3a.cell? ⟨wr.heap.size, 2, none⟩ = some (.string x.name) := by rw [cell_of_block HB2.out.2]; rfl
            have k42 : w3a.cell? ⟨wr.heap.size, 4, none⟩ = some (.slice x.bo x.b.length x.bcap) := by rw [cell_of_block HB2.out.2]; rfl
            have HX2 := lUsed HW2.out
            have HU2 : Hid (Calls Try.prog 40 #[dp d] w3a fun e w' => e = .returned (.int .i64 (U : Int)) ∧ w' = w3a) := by rw [HUs.out] at HX2; exact HX2
            have HA2 : Hid (Calls Try.prog 14 #[dp d, .string x.name, .slice x.bo x.b.length x.bcap] w3a fun e w' => e = .returned (.int .i64 E) ∧ LPost w2 d F (mAppend s x.nm x.b) w3a w') := by
              rw [hE.out]
              exact lAppend HW2.out hsl x.name (by omega) x.bg x.bo x.b x.b.length x.bcap rfl HX.out.bno (HX.out.bl.keep fun e => (HW2.out.since.block x.bg (HX.out.bl.lt e) id)) HX.out.blen
            clear HX2 hwl h2 t2 HR HW1 HB1
            go_wp2_with fail
            refine HU2.out.mono ?_
            rintro e w3b ⟨rfl, hw2⟩
            rw [hw2]; clear hw2
            go_wp2_with fail
            refine HA2.out.mono ?_
            rintro e w3c ⟨rfl, F4, h3, hs⟩
            have HB3 : Hid (Free F4 w3c wr.heap.size ∧ w3c.heap[wr.heap.size]? = some (.cells #[.int .i64 0, .int .i64 x.n, .string x.name, .string x.tgt, .slice x.bo x.b.length x.bcap, .slice x.ko x.keep.length x.kcap] 32 (0, 0))) := ⟨HB2.out.1.step hs, (HB2.out.1.same hs).trans HB2.out.2⟩
            have HWL3 : Hid (LF F4 w3c rg ro was) := HWL.out.step hs
            have HW3 : Hid (Live w2 w3c d F4 (mAppend s x.nm x.b)) := h3
            obtain ⟨now, hnow⟩ : ∃ now, Hid (now = mRead (mAppend s x.nm x.b) x.nm) := ⟨_, rfl⟩
            obtain ⟨er2, her2⟩ : ∃ er2, Hid (er2 = (mAppend s x.nm x.b).err x.nm) := ⟨_, rfl⟩
            have hsl2 : (mAppend s x.nm x.b).fs.length ≤ 1073741823 := by have := HN1.out.len; omega
            have k23 : w3c.cell? ⟨wr.heap.size, 2, none⟩ = some (.string x.name) := by rw [cell_of_block HB3.out.2]; rfl
            have k43 : w3c.cell? ⟨wr.heap.size, 4, none⟩ = some (.slice x.bo x.b.length x.bcap) := by rw [cell_of_block HB3.out.2]; rfl
            have HR3 : Hid (Calls Try.prog 25 #[dp d, .string x.name] w3c fun e w' => (∃ ro rc rg, e = .returned (.tuple #[.slice ro now.length rc, .int .i64 er2]) ∧ LF F4 w' rg ro now) ∧ Live w2 w' d F4 (mAppend s x.nm x.b) ∧ Touch (fun _ => False) w3c w') := by
              refine (lRead HW3.out hsl2 x.name (by omega)).mono ?_
              rintro e w' ⟨⟨v, rfl, hrow⟩, h2, t⟩
              obtain ⟨ro, rc, rg, rfl, hl, _⟩ := HW3.out.read t.size hrow
              rw [hnow.out, her2.out]
              exact ⟨⟨ro, rc, rg, rfl, hl⟩, h2, t⟩
            clear h3 hs HB2 HWL HW2 HU2 HA2 k22 k42
            go_wp2_with fail
            refine HR3.out.mono ?_
            rintro e w4 ⟨⟨so, sc, sg, rfl, hnl⟩, h4, t4⟩
            have HB4 : Hid (Free F4 w4 wr.heap.size ∧ w4.heap[wr.heap.size]? = some (.cells #[.int .i64 0, .int .i64 x.n, .string x.name, .string x.tgt, .slice x.bo x.b.length x.bcap, .slice x.ko x.keep.length x.kcap] 32 (0, 0))) := ⟨HB3.out.1.touch t4, (t4.block _ HB3.out.1.lt id).trans HB3.out.2⟩
            have HWL4 : Hid (LF F4 w4 rg ro was ∧ LF F4 w4 sg so now) := ⟨HWL3.out.touch t4, hnl⟩
            have HW4 : Hid (Live w2 w4 d F4 (mAppend s x.nm x.b)) := h4
            obtain ⟨U2, hU2⟩ : ∃ U2, Hid (U2 = (mAppend s x.nm x.b).used) := ⟨_, rfl⟩
            have k24 : w4.cell? ⟨wr.heap.size, 2, none⟩ = some (.string x.name) := by rw [cell_of_block HB4.out.2]; rfl
            have k44 : w4.cell? ⟨wr.heap.size, 4, none⟩ = some (.slice x.bo x.b.length x.bcap) := by rw [cell_of_block HB4.out.2]; rfl
            have HX2 := lUsed HW4.out
            have HU4 : Hid (Calls Try.prog 40 #[dp d] w4 fun e w' => e = .returned (.int .i64 (U2 : Int)) ∧ w' = w4) := by rw [← hU2.out] at HX2; exact HX2
            have hu2 : U2 ≤ c := by rw [hU2.out]; exact HN1.out.used
            have HEnd : Hid (∃ s F, Live w2 w4 d F s ∧ RI c (k + 1) s) := ⟨_, _, HW4.out, HN1.out⟩
            have hzn : (x.nm).length = x.name.size := by unfold StepV.nm; rw [Array.length_toList]; rfl
            have hEn : E ≠ 0 := fun h0 => by
              have := HIc.out.1 h0
              unfold isNm at this
              rw [hzn] at this
              simp at this
              omega
            have hE1 : (E == 0) = false := by simpa using hEn
            have hms : mAppend s x.nm x.b = s := by unfold mAppend; rw [if_neg (by rw [← hE.out]; exact hEn)]
            have hnw : now = was := by rw [hnow.out, hwas.out, hms]
            have hee : er2 = er := by rw [her2.out, her.out, hms]
            have hUU : U2 = U := by rw [hU2.out, hms]; exact HUs.out
            have HBy : Hid (Calls Try.prog 27 #[.slice ro was.length rc, .slice so now.length sc] w4 fun e w' => e = .returned (.bool true) ∧ w' = w4) := by
              have := help_bytes rg sg ro so was now was.length now.length rc sc rfl rfl w4 HWL4.out.1.lies HWL4.out.2.lies
              rw [show (was == now) = true from by rw [hnw]; simp] at this
              exact this
            clear h4 t4 hnl HB3 HWL3 HW3 HR3 k23 k43 hnow hwas her her2 HX2 hU2 hE HIc hzn HRS hms HWL4
            subst hnw hee hUU
            go_wp2_with fail
            refine HBy.out.mono ?_
            rintro e w5 ⟨rfl, hw5⟩
            rw [hw5]; clear hw5
            go_wp2_with fail
            refine HU4.out.mono ?_
            rintro e w5 ⟨rfl, hw⟩
            rw [hw]; clear hw
            go_wp2_with fail
            refine HU4.out.mono ?_
            rintro e w5 ⟨rfl, hw⟩
            rw [hw]; clear hw
            go_wp2_with fail
            go_roundw
            case rel => exact ⟨k + 1, by go_num, by omega, HEnd.out⟩
            case measure => simp [intOf]; omega
        have hw0 : (x.what == 0) = false := by simpa using hw
        have hv0 : ¬ x.what = 0 := hw
        clear hw
        by_cases hw : x.what = 1
        · by_cases f1 : U + x.b.length ≤ c
          · have g1 : (U : Int) + (x.b.length : Int) ≤ (c : Int) := by omega
            by_cases f2 : 1 ≤ x.name.size
            · by_cases f3 : x.name.size ≤ 32
              · rw [hw] at a0
                have HRS : Hid (rS s x = mAppend s x.nm x.b) := by unfold rS StepV.app; simp [hw, Hid]
                rw [HRS.out] at HN1
                obtain ⟨was, hwas⟩ : ∃ was, Hid (was = mRead s x.nm) := ⟨_, rfl⟩
                obtain ⟨er, her⟩ : ∃ er, Hid (er = s.err x.nm) := ⟨_, rfl⟩
                obtain ⟨E, hE⟩ : ∃ E, Hid (E = appE s x.nm x.b) := ⟨_, rfl⟩
                rw [← hE.out] at HIc
                have HIc : Hid (E = 0 ↔ (isNm x.nm = true ∧ U + x.b.length ≤ c)) := HIc
                have HR : Hid (Calls Try.prog 25 #[dp d, .string x.name] (wr.alloc (.cells #[.int .i64 x.what, .int .i64 x.n, .string x.name, .string x.tgt, .slice x.bo x.b.length x.bcap, .slice x.ko x.keep.length x.kcap] 32)) fun e w' => (∃ ro rc rg, e = .returned (.tuple #[.slice ro was.length rc, .int .i64 er]) ∧ LF F w' rg ro was) ∧ Live w2 w' d F s ∧ Touch (fun _ => False) (wr.alloc (.cells #[.int .i64 x.what, .int .i64 x.n, .string x.name, .string x.tgt, .slice x.bo x.b.length x.bcap, .slice x.ko x.keep.length x.kcap] 32)) w') := by
                  refine (lRead HW1.out hsl x.name (by omega)).mono ?_
                  rintro e w' ⟨⟨v, rfl, hrow⟩, h2, t⟩
                  obtain ⟨ro, rc, rg, rfl, hl, _⟩ := HW1.out.read t.size hrow
                  rw [hwas.out, her.out]
                  exact ⟨⟨ro, rc, rg, rfl, hl⟩, h2, t⟩
                rw [hw] at HR HB1
                go_wp2_with fail
                refine HR.out.mono ?_
                rintro e w3a ⟨⟨ro, rc, rg, rfl, hwl⟩, h2, t2⟩
                have HB2 : Hid (Free F w3a wr.heap.size ∧ w3a.heap[wr.heap.size]? = some (.cells #[.int .i64 1, .int .i64 x.n, .string x.name, .string x.tgt, .slice x.bo x.b.length x.bcap, .slice x.ko x.keep.length x.kcap] 32 (0, 0))) := ⟨HB1.out.1.touch t2, (t2.block _ HB1.out.1.lt id).trans HB1.out.2⟩
                have HWL : Hid (LF F w3a rg ro was) := hwl
                have HW2 : Hid (Live w2 w3a d F s) := h2
                have k22 : w3a.cell? ⟨wr.heap.size, 2, none⟩ = some (.string x.name) := by rw [cell_of_block HB2.out.2]; rfl
                have k42 : w3a.cell? ⟨wr.heap.size, 4, none⟩ = some (.slice x.bo x.b.length x.bcap) := by rw [cell_of_block HB2.out.2]; rfl
                have HX2 := lUsed HW2.out
                have HU2 : Hid (Calls Try.prog 40 #[dp d] w3a fun e w' => e = .returned (.int .i64 (U : Int)) ∧ w' = w3a) := by rw [HUs.out] at HX2; exact HX2
                have HA2 : Hid (Calls Try.prog 14 #[dp d, .string x.name, .slice x.bo x.b.length x.bcap] w3a fun e w' => e = .returned (.int .i64 E) ∧ LPost w2 d F (mAppend s x.nm x.b) w3a w') := by
                  rw [hE.out]
                  exact lAppend HW2.out hsl x.name (by omega) x.bg x.bo x.b x.b.length x.bcap rfl HX.out.bno (HX.out.bl.keep fun e => (HW2.out.since.block x.bg (HX.out.bl.lt e) id)) HX.out.blen
                clear HX2 hwl h2 t2 HR HW1 HB1
                go_wp2_with fail
                refine HU2.out.mono ?_
                rintro e w3b ⟨rfl, hw2⟩
                rw [hw2]; clear hw2
                go_wp2_with fail
                refine HA2.out.mono ?_
                rintro e w3c ⟨rfl, F4, h3, hs⟩
                have HB3 : Hid (Free F4 w3c wr.heap.size ∧ w3c.heap[wr.heap.size]? = some (.cells #[.int .i64 1, .int .i64 x.n, .string x.name, .string x.tgt, .slice x.bo x.b.length x.bcap, .slice x.ko x.keep.length x.kcap] 32 (0, 0))) := ⟨HB2.out.1.step hs, (HB2.out.1.same hs).trans HB2.out.2⟩
                have HWL3 : Hid (LF F4 w3c rg ro was) := HWL.out.step hs
                have HW3 : Hid (Live w2 w3c d F4 (mAppend s x.nm x.b)) := h3
                obtain ⟨now, hnow⟩ : ∃ now, Hid (now = mRead (mAppend s x.nm x.b) x.nm) := ⟨_, rfl⟩
                obtain ⟨er2, her2⟩ : ∃ er2, Hid (er2 = (mAppend s x.nm x.b).err x.nm) := ⟨_, rfl⟩
                have hsl2 : (mAppend s x.nm x.b).fs.length ≤ 1073741823 := by have := HN1.out.len; omega
                have k23 : w3c.cell? ⟨wr.heap.size, 2, none⟩ = some (.string x.name) := by rw [cell_of_block HB3.out.2]; rfl
                have k43 : w3c.cell? ⟨wr.heap.size, 4, none⟩ = some (.slice x.bo x.b.length x.bcap) := by rw [cell_of_block HB3.out.2]; rfl
                have HR3 : Hid (Calls Try.prog 25 #[dp d, .string x.name] w3c fun e w' => (∃ ro rc rg, e = .returned (.tuple #[.slice ro now.length rc, .int .i64 er2]) ∧ LF F4 w' rg ro now) ∧ Live w2 w' d F4 (mAppend s x.nm x.b) ∧ Touch (fun _ => False) w3c w') := by
                  refine (lRead HW3.out hsl2 x.name (by omega)).mono ?_
                  rintro e w' ⟨⟨v, rfl, hrow⟩, h2, t⟩
                  obtain ⟨ro, rc, rg, rfl, hl, _⟩ := HW3.out.read t.size hrow
                  rw [hnow.out, her2.out]
                  exact ⟨⟨ro, rc, rg, rfl, hl⟩, h2, t⟩
                clear h3 hs HB2 HWL HW2 HU2 HA2 k22 k42
                go_wp2_with fail
                refine HR3.out.mono ?_
                rintro e w4 ⟨⟨so, sc, sg, rfl, hnl⟩, h4, t4⟩
                have HB4 : Hid (Free F4 w4 wr.heap.size ∧ w4.heap[wr.heap.size]? = some (.cells #[.int .i64 1, .int .i64 x.n, .string x.name, .string x.tgt, .slice x.bo x.b.length x.bcap, .slice x.ko x.keep.length x.kcap] 32 (0, 0))) := ⟨HB3.out.1.touch t4, (t4.block _ HB3.out.1.lt id).trans HB3.out.2⟩
                have HWL4 : Hid (LF F4 w4 rg ro was ∧ LF F4 w4 sg so now) := ⟨HWL3.out.touch t4, hnl⟩
                have HW4 : Hid (Live w2 w4 d F4 (mAppend s x.nm x.b)) := h4
                obtain ⟨U2, hU2⟩ : ∃ U2, Hid (U2 = (mAppend s x.nm x.b).used) := ⟨_, rfl⟩
                have k24 : w4.cell? ⟨wr.heap.size, 2, none⟩ = some (.string x.name) := by rw [cell_of_block HB4.out.2]; rfl
                have k44 : w4.cell? ⟨wr.heap.size, 4, none⟩ = some (.slice x.bo x.b.length x.bcap) := by rw [cell_of_block HB4.out.2]; rfl
                have HX2 := lUsed HW4.out
                have HU4 : Hid (Calls Try.prog 40 #[dp d] w4 fun e w' => e = .returned (.int .i64 (U2 : Int)) ∧ w' = w4) := by rw [← hU2.out] at HX2; exact HX2
                have hu2 : U2 ≤ c := by rw [hU2.out]; exact HN1.out.used
                have HEnd : Hid (∃ s F, Live w2 w4 d F s ∧ RI c (k + 1) s) := ⟨_, _, HW4.out, HN1.out⟩
                have hzn : (x.nm).length = x.name.size := by unfold StepV.nm; rw [Array.length_toList]; rfl
                have hE0 : E = 0 := HIc.out.2 ⟨by unfold isNm; rw [hzn]; simp; omega, by omega⟩
                have hnl2 : now.length = was.length + x.b.length := by rw [hnow.out, hwas.out, read_app HI.out.power _ _ (hE.out.symm.trans hE0), List.length_append]
                have hnI : (now.length : Int) = (was.length : Int) + (x.b.length : Int) := by omega
                have hwb : was.length ≤ 200 := by rw [hwas.out, read_at HI.out.power]; have := at_le (s := s) x.nm; have := HI.out.used; omega
                subst hE0
                clear h4 t4 hnl HB3 HWL3 HW3 HR3 k23 k43 hnow hwas her her2 HX2 hU2 hE HIc hzn hnl2 HRS
                go_wp2_with fail
                refine HU4.out.mono ?_
                rintro e w5 ⟨rfl, hw⟩
                rw [hw]; clear hw
                go_wp2_with fail
                go_roundw
                case rel => exact ⟨k + 1, by go_num, by omega, HEnd.out⟩
                case measure => simp [intOf]; omega
              · rw [hw] at a0
                have HRS : Hid (rS s x = mAppend s x.nm x.b) := by unfold rS StepV.app; simp [hw, Hid]
                rw [HRS.out] at HN1
                obtain ⟨was, hwas⟩ : ∃ was, Hid (was = mRead s x.nm) := ⟨_, rfl⟩
                obtain ⟨er, her⟩ : ∃ er, Hid (er = s.err x.nm) := ⟨_, rfl⟩
                obtain ⟨E, hE⟩ : ∃ E, Hid (E = appE s x.nm x.b) := ⟨_, rfl⟩
                rw [← hE.out] at HIc
                have HIc : Hid (E = 0 ↔ (isNm x.nm = true ∧ U + x.b.length ≤ c)) := HIc
                have HR : Hid (Calls Try.prog 25 #[dp d, .string x.name] (wr.alloc (.cells #[.int .i64 x.what, .int .i64 x.n, .string x.name, .string x.tgt, .slice x.bo x.b.length x.bcap, .slice x.ko x.keep.length x.kcap] 32)) fun e w' => (∃ ro rc rg, e = .returned (.tuple #[.slice ro was.length rc, .int .i64 er]) ∧ LF F w' rg ro was) ∧ Live w2 w' d F s ∧ Touch (fun _ => False) (wr.alloc (.cells #[.int .i64 x.what, .int .i64 x.n, .string x.name, .string x.tgt, .slice x.bo x.b.length x.bcap, .slice x.ko x.keep.length x.kcap] 32)) w') := by
                  refine (lRead HW1.out hsl x.name (by omega)).mono ?_
                  rintro e w' ⟨⟨v, rfl, hrow⟩, h2, t⟩
                  obtain ⟨ro, rc, rg, rfl, hl, _⟩ := HW1.out.read t.size hrow
                  rw [hwas.out, her.out]
                  exact ⟨⟨ro, rc, rg, rfl, hl⟩, h2, t⟩
                rw [hw] at HR HB1
                go_wp2_with fail
                refine HR.out.mono ?_
                rintro e w3a ⟨⟨ro, rc, rg, rfl, hwl⟩, h2, t2⟩
                have HB2 : Hid (Free F w3a wr.heap.size ∧ w3a.heap[wr.heap.size]? = some (.cells #[.int .i64 1, .int .i64 x.n, .string x.name, .string x.tgt, .slice x.bo x.b.length x.bcap, .slice x.ko x.keep.length x.kcap] 32 (0, 0))) := ⟨HB1.out.1.touch t2, (t2.block _ HB1.out.1.lt id).trans HB1.out.2⟩
                have HWL : Hid (LF F w3a rg ro was) := hwl
                have HW2 : Hid (Live w2 w3a d F s) := h2
                have k22 : w3a.cell? ⟨wr.heap.size, 2, none⟩ = some (.string x.name) := by rw [cell_of_block HB2.out.2]; rfl
                have k42 : w3a.cell? ⟨wr.heap.size, 4, none⟩ = some (.slice x.bo x.b.length x.bcap) := by rw [cell_of_block HB2.out.2]; rfl
                have HX2 := lUsed HW2.out
                have HU2 : Hid (Calls Try.prog 40 #[dp d] w3a fun e w' => e = .returned (.int .i64 (U : Int)) ∧ w' = w3a) := by rw [HUs.out] at HX2; exact HX2
                have HA2 : Hid (Calls Try.prog 14 #[dp d, .string x.name, .slice x.bo x.b.length x.bcap] w3a fun e w' => e = .returned (.int .i64 E) ∧ LPost w2 d F (mAppend s x.nm x.b) w3a w') := by
                  rw [hE.out]
                  exact lAppend HW2.out hsl x.name (by omega) x.bg x.bo x.b x.b.length x.bcap rfl HX.out.bno (HX.out.bl.keep fun e => (HW2.out.since.block x.bg (HX.out.bl.lt e) id)) HX.out.blen
                clear HX2 hwl h2 t2 HR HW1 HB1
                go_wp2_with fail
                refine HU2.out.mono ?_
                rintro e w3b ⟨rfl, hw2⟩
                rw [hw2]; clear hw2
                go_wp2_with fail
                refine HA2.out.mono ?_
                rintro e w3c ⟨rfl, F4, h3, hs⟩
                have HB3 : Hid (Free F4 w3c wr.heap.size ∧ w3c.heap[wr.heap.size]? = some (.cells #[.int .i64 1, .int .i64 x.n, .string x.name, .string x.tgt, .slice x.bo x.b.length x.bcap, .slice x.ko x.keep.length x.kcap] 32 (0, 0))) := ⟨HB2.out.1.step hs, (HB2.out.1.same hs).trans HB2.out.2⟩
                have HWL3 : Hid (LF F4 w3c rg ro was) := HWL.out.step hs
                have HW3 : Hid (Live w2 w3c d F4 (mAppend s x.nm x.b)) := h3
                obtain ⟨now, hnow⟩ : ∃ now, Hid (now = mRead (mAppend s x.nm x.b) x.nm) := ⟨_, rfl⟩
                obtain ⟨er2, her2⟩ : ∃ er2, Hid (er2 = (mAppend s x.nm x.b).err x.nm) := ⟨_, rfl⟩
                have hsl2 : (mAppend s x.nm x.b).fs.length ≤ 1073741823 := by have := HN1.out.len; omega
                have k23 : w3c.cell? ⟨wr.heap.size, 2, none⟩ = some (.string x.name) := by rw [cell_of_block HB3.out.2]; rfl
                have k43 : w3c.cell? ⟨wr.heap.size, 4, none⟩ = some (.slice x.bo x.b.length x.bcap) := by rw [cell_of_block HB3.out.2]; rfl
                have HR3 : Hid (Calls Try.prog 25 #[dp d, .string x.name] w3c fun e w' => (∃ ro rc rg, e = .returned (.tuple #[.slice ro now.length rc, .int .i64 er2]) ∧ LF F4 w' rg ro now) ∧ Live w2 w' d F4 (mAppend s x.nm x.b) ∧ Touch (fun _ => False) w3c w') := by
                  refine (lRead HW3.out hsl2 x.name (by omega)).mono ?_
                  rintro e w' ⟨⟨v, rfl, hrow⟩, h2, t⟩
                  obtain ⟨ro, rc, rg, rfl, hl, _⟩ := HW3.out.read t.size hrow
                  rw [hnow.out, her2.out]
                  exact ⟨⟨ro, rc, rg, rfl, hl⟩, h2, t⟩
                clear h3 hs HB2 HWL HW2 HU2 HA2 k22 k42
                go_wp2_with fail
                refine HR3.out.mono ?_
                rintro e w4 ⟨⟨so, sc, sg, rfl, hnl⟩, h4, t4⟩
                have HB4 : Hid (Free F4 w4 wr.heap.size ∧ w4.heap[wr.heap.size]? = some (.cells #[.int .i64 1, .int .i64 x.n, .string x.name, .string x.tgt, .slice x.bo x.b.length x.bcap, .slice x.ko x.keep.length x.kcap] 32 (0, 0))) := ⟨HB3.out.1.touch t4, (t4.block _ HB3.out.1.lt id).trans HB3.out.2⟩
                have HWL4 : Hid (LF F4 w4 rg ro was ∧ LF F4 w4 sg so now) := ⟨HWL3.out.touch t4, hnl⟩
                have HW4 : Hid (Live w2 w4 d F4 (mAppend s x.nm x.b)) := h4
                obtain ⟨U2, hU2⟩ : ∃ U2, Hid (U2 = (mAppend s x.nm x.b).used) := ⟨_, rfl⟩
                have k24 : w4.cell? ⟨wr.heap.size, 2, none⟩ = some (.string x.name) := by rw [cell_of_block HB4.out.2]; rfl
                have k44 : w4.cell? ⟨wr.heap.size, 4, none⟩ = some (.slice x.bo x.b.length x.bcap) := by rw [cell_of_block HB4.out.2]; rfl
                have HX2 := lUsed HW4.out
                have HU4 : Hid (Calls Try.prog 40 #[dp d] w4 fun e w' => e = .returned (.int .i64 (U2 : Int)) ∧ w' = w4) := by rw [← hU2.out] at HX2; exact HX2
                have hu2 : U2 ≤ c := by rw [hU2.out]; exact HN1.out.used
                have HEnd : Hid (∃ s F, Live w2 w4 d F s ∧ RI c (k + 1) s) := ⟨_, _, HW4.out, HN1.out⟩
                have hzn : (x.nm).length = x.name.size := by unfold StepV.nm; rw [Array.length_toList]; rfl
                have hEn : E ≠ 0 := fun h0 => by
                  have := HIc.out.1 h0
                  unfold isNm at this
                  rw [hzn] at this
                  simp at this
                  omega
                have hE1 : (E == 0) = false := by simpa using hEn
                have hms : mAppend s x.nm x.b = s := by unfold mAppend; rw [if_neg (by rw [← hE.out]; exact hEn)]
                have hnw : now = was := by rw [hnow.out, hwas.out, hms]
                have hee : er2 = er := by rw [her2.out, her.out, hms]
                have hUU : U2 = U := by rw [hU2.out, hms]; exact HUs.out
                have HBy : Hid (Calls Try.prog 27 #[.slice ro was.length rc, .slice so now.length sc] w4 fun e w' => e = .returned (.bool true) ∧ w' = w4) := by
                  have := help_bytes rg sg ro so was now was.length now.length rc sc rfl rfl w4 HWL4.out.1.lies HWL4.out.2.lies
                  rw [show (was == now) = true from by rw [hnw]; simp] at this
                  exact this
                clear h4 t4 hnl HB3 HWL3 HW3 HR3 k23 k43 hnow hwas her her2 HX2 hU2 hE HIc hzn HRS hms HWL4
                subst hnw hee hUU
                go_wp2_with fail
                refine HBy.out.mono ?_
                rintro e w5 ⟨rfl, hw5⟩
                rw [hw5]; clear hw5
                go_wp2_with fail
                refine HU4.out.mono ?_
                rintro e w5 ⟨rfl, hw⟩
                rw [hw]; clear hw
                go_wp2_with fail
                refine HU4.out.mono ?_
                rintro e w5 ⟨rfl, hw⟩
                rw [hw]; clear hw
                go_wp2_with fail
                go_roundw
                case rel => exact ⟨k + 1, by go_num, by omega, HEnd.out⟩
                case measure => simp [intOf]; omega
            · rw [hw] at a0
              have HRS : Hid (rS s x = mAppend s x.nm x.b) := by unfold rS StepV.app; simp [hw, Hid]
              rw [HRS.out] at HN1
              obtain ⟨was, hwas⟩ : ∃ was, Hid (was = mRead s x.nm) := ⟨_, rfl⟩
              obtain ⟨er, her⟩ : ∃ er, Hid (er = s.err x.nm) := ⟨_, rfl⟩
              obtain ⟨E, hE⟩ : ∃ E, Hid (E = appE s x.nm x.b) := ⟨_, rfl⟩
              rw [← hE.out] at HIc
              have HIc : Hid (E = 0 ↔ (isNm x.nm = true ∧ U + x.b.length ≤ c)) := HIc
              have HR : Hid (Calls Try.prog 25 #[dp d, .string x.name] (wr.alloc (.cells #[.int .i64 x.what, .int .i64 x.n, .string x.name, .string x.tgt, .slice x.bo x.b.length x.bcap, .slice x.ko x.keep.length x.kcap] 32)) fun e w' => (∃ ro rc rg, e = .returned (.tuple #[.slice ro was.length rc, .int .i64 er]) ∧ LF F w' rg ro was) ∧ Live w2 w' d F s ∧ Touch (fun _ => False) (wr.alloc (.cells #[.int .i64 x.what, .int .i64 x.n, .string x.name, .string x.tgt, .slice x.bo x.b.length x.bcap, .slice x.ko x.keep.length x.kcap] 32)) w') := by
                refine (lRead HW1.out hsl x.name (by omega)).mono ?_
                rintro e w' ⟨⟨v, rfl, hrow⟩, h2, t⟩
                obtain ⟨ro, rc, rg, rfl, hl, _⟩ := HW1.out.read t.size hrow
                rw [hwas.out, her.out]
                exact ⟨⟨ro, rc, rg, rfl, hl⟩, h2, t⟩
              rw [hw] at HR HB1
              go_wp2_with fail
              refine HR.out.mono ?_
              rintro e w3a ⟨⟨ro, rc, rg, rfl, hwl⟩, h2, t2⟩
              have HB2 : Hid (Free F w3a wr.heap.size ∧ w3a.heap[wr.heap.size]? = some (.cells #[.int .i64 1, .int .i64 x.n, .string x.name, .string x.tgt, .slice x.bo x.b.length x.bcap, .slice x.ko x.keep.length x.kcap] 32 (0, 0))) := ⟨HB1.out.1.touch t2, (t2.block _ HB1.out.1.lt id).trans HB1.out.2⟩
              have HWL : Hid (LF F w3a rg ro was) := hwl
              have HW2 : Hid (Live w2 w3a d F s) := h2
              have k22 : w3a.cell? ⟨wr.heap.size, 2, none⟩ = some (.string x.name) := by rw [cell_of_block HB2.out.2]; rfl
              have k42 : w3a.cell? ⟨wr.heap.size, 4, none⟩ = some (.slice x.bo x.b.length x.bcap) := by rw [cell_of_block HB2.out.2]; rfl
              have HX2 := lUsed HW2.out
              have HU2 : Hid (Calls Try.prog 40 #[dp d] w3a fun e w' => e = .returned (.int .i64 (U : Int)) ∧ w' = w3a) := by rw [HUs.out] at HX2; exact HX2
              have HA2 : Hid (Calls Try.prog 14 #[dp d, .string x.name, .slice x.bo x.b.length x.bcap] w3a fun e w' => e = .returned (.int .i64 E) ∧ LPost w2 d F (mAppend s x.nm x.b) w3a w') := by
                rw [hE.out]
                exact lAppend HW2.out hsl x.name (by omega) x.bg x.bo x.b x.b.length x.bcap rfl HX.out.bno (HX.out.bl.keep fun e => (HW2.out.since.block x.bg (HX.out.bl.lt e) id)) HX.out.blen
              clear HX2 hwl h2 t2 HR HW1 HB1
              go_wp2_with fail
              refine HU2.out.mono ?_
              rintro e w3b ⟨rfl, hw2⟩
              rw [hw2]; clear hw2
              go_wp2_with fail
              refine HA2.out.mono ?_
              rintro e w3c ⟨rfl, F4, h3, hs⟩
              have HB3 : Hid (Free F4 w3c wr.heap.size ∧ w3c.heap[wr.heap.size]? = some (.cells #[.int .i64 1, .int .i64 x.n, .string x.name, .string x.tgt, .slice x.bo x.b.length x.bcap, .slice x.ko x.keep.length x.kcap] 32 (0, 0))) := ⟨HB2.out.1.step hs, (HB2.out.1.same hs).trans HB2.out.2⟩
              have HWL3 : Hid (LF F4 w3c rg ro was) := HWL.out.step hs
              have HW3 : Hid (Live w2 w3c d F4 (mAppend s x.nm x.b)) := h3
              obtain ⟨now, hnow⟩ : ∃ now, Hid (now = mRead (mAppend s x.nm x.b) x.nm) := ⟨_, rfl⟩
              obtain ⟨er2, her2⟩ : ∃ er2, Hid (er2 = (mAppend s x.nm x.b).err x.nm) := ⟨_, rfl⟩
              have hsl2 : (mAppend s x.nm x.b).fs.length ≤ 1073741823 := by have := HN1.out.len; omega
              have k23 : w3c.cell? ⟨wr.heap.size, 2, none⟩ = some (.string x.name) := by rw [cell_of_block HB3.out.2]; rfl
              have k43 : w3c.cell? ⟨wr.heap.size, 4, none⟩ = some (.slice x.bo x.b.length x.bcap) := by rw [cell_of_block HB3.out.2]; rfl
              have HR3 : Hid (Calls Try.prog 25 #[dp d, .string x.name] w3c fun e w' => (∃ ro rc rg, e = .returned (.tuple #[.slice ro now.length rc, .int .i64 er2]) ∧ LF F4 w' rg ro now) ∧ Live w2 w' d F4 (mAppend s x.nm x.b) ∧ Touch (fun _ => False) w3c w') := by
                refine (lRead HW3.out hsl2 x.name (by omega)).mono ?_
                rintro e w' ⟨⟨v, rfl, hrow⟩, h2, t⟩
                obtain ⟨ro, rc, rg, rfl, hl, _⟩ := HW3.out.read t.size hrow
                rw [hnow.out, her2.out]
                exact ⟨⟨ro, rc, rg, rfl, hl⟩, h2, t⟩
              clear h3 hs HB2 HWL HW2 HU2 HA2 k22 k42
              go_wp2_with fail
              refine HR3.out.mono ?_
              rintro e w4 ⟨⟨so, sc, sg, rfl, hnl⟩, h4, t4⟩
              have HB4 : Hid (Free F4 w4 wr.heap.size ∧ w4.heap[wr.heap.size]? = some (.cells #[.int .i64 1, .int .i64 x.n, .string x.name, .string x.tgt, .slice x.bo x.b.length x.bcap, .slice x.ko x.keep.length x.kcap] 32 (0, 0))) := ⟨HB3.out.1.touch t4, (t4.block _ HB3.out.1.lt id).trans HB3.out.2⟩
              have HWL4 : Hid (LF F4 w4 rg ro was ∧ LF F4 w4 sg so now) := ⟨HWL3.out.touch t4, hnl⟩
              have HW4 : Hid (Live w2 w4 d F4 (mAppend s x.nm x.b)) := h4
              obtain ⟨U2, hU2⟩ : ∃ U2, Hid (U2 = (mAppend s x.nm x.b).used) := ⟨_, rfl⟩
              have k24 : w4.cell? ⟨wr.heap.size, 2, none⟩ = some (.string x.name) := by rw [cell_of_block HB4.out.2]; rfl
              have k44 : w4.cell? ⟨wr.heap.size, 4, none⟩ = some (.slice x.bo x.b.length x.bcap) := by rw [cell_of_block HB4.out.2]; rfl
              have HX2 := lUsed HW4.out
              have HU4 : Hid (Calls Try.prog 40 #[dp d] w4 fun e w' => e = .returned (.int .i64 (U2 : Int)) ∧ w' = w4) := by rw [← hU2.out] at HX2; exact HX2
              have hu2 : U2 ≤ c := by rw [hU2.out]; exact HN1.out.used
              have HEnd : Hid (∃ s F, Live w2 w4 d F s ∧ RI c (k + 1) s) := ⟨_, _, HW4.out, HN1.out⟩
              have hzn : (x.nm).length = x.name.size := by unfold StepV.nm; rw [Array.length_toList]; rfl
              have hEn : E ≠ 0 := fun h0 => by
                have := HIc.out.1 h0
                unfold isNm at this
                rw [hzn] at this
                simp at this
                omega
              have hE1 : (E == 0) = false := by simpa using hEn
              have hms : mAppend s x.nm x.b = s := by unfold mAppend; rw [if_neg (by rw [← hE.out]; exact hEn)]
              have hnw : now = was := by rw [hnow.out, hwas.out, hms]
              have hee : er2 = er := by rw [her2.out, her.out, hms]
              have hUU : U2 = U := by rw [hU2.out, hms]; exact HUs.out
              have HBy : Hid (Calls Try.prog 27 #[.slice ro was.length rc, .slice so now.length sc] w4 fun e w' => e = .returned (.bool true) ∧ w' = w4) := by
                have := help_bytes rg sg ro so was now was.length now.length rc sc rfl rfl w4 HWL4.out.1.lies HWL4.out.2.lies
                rw [show (was == now) = true from by rw [hnw]; simp] at this
                exact this
              clear h4 t4 hnl HB3 HWL3 HW3 HR3 k23 k43 hnow hwas her her2 HX2 hU2 hE HIc hzn HRS hms HWL4
              subst hnw hee hUU
              go_wp2_with fail
              refine HBy.out.mono ?_
              rintro e w5 ⟨rfl, hw5⟩
              rw [hw5]; clear hw5
              go_wp2_with fail
              refine HU4.out.mono ?_
              rintro e w5 ⟨rfl, hw⟩
              rw [hw]; clear hw
              go_wp2_with fail
              refine HU4.out.mono ?_
              rintro e w5 ⟨rfl, hw⟩
              rw [hw]; clear hw
              go_wp2_with fail
              go_roundw
              case rel => exact ⟨k + 1, by go_num, by omega, HEnd.out⟩
              case measure => simp [intOf]; omega
          · have g1 : decide ((U : Int) + (x.b.length : Int) ≤ (c : Int)) = false := by simp; omega
            rw [hw] at a0
            have HRS : Hid (rS s x = mAppend s x.nm x.b) := by unfold rS StepV.app; simp [hw, Hid]
            rw [HRS.out] at HN1
            obtain ⟨was, hwas⟩ : ∃ was, Hid (was = mRead s x.nm) := ⟨_, rfl⟩
            obtain ⟨er, her⟩ : ∃ er, Hid (er = s.err x.nm) := ⟨_, rfl⟩
            obtain ⟨E, hE⟩ : ∃ E, Hid (E = appE s x.nm x.b) := ⟨_, rfl⟩
            rw [← hE.out] at HIc
            have HIc : Hid (E = 0 ↔ (isNm x.nm = true ∧ U + x.b.length ≤ c)) := HIc
            have HR : Hid (Calls Try.prog 25 #[dp d, .string x.name] (wr.alloc (.cells #[.int .i64 x.what, .int .i64 x.n, .string x.name, .string x.tgt, .slice x.bo x.b.length x.bcap, .slice x.ko x.keep.length x.kcap] 32)) fun e w' => (∃ ro rc rg, e = .returned (.tuple #[.slice ro was.length rc, .int .i64 er]) ∧ LF F w' rg ro was) ∧ Live w2 w' d F s ∧ Touch (fun _ => False) (wr.alloc (.cells #[.int .i64 x.what, .int .i64 x.n, .string x.name, .string x.tgt, .slice x.bo x.b.length x.bcap, .slice x.ko x.keep.length x.kcap] 32)) w') := by
              refine (lRead HW1.out hsl x.name (by omega)).mono ?_
              rintro e w' ⟨⟨v, rfl, hrow⟩, h2, t⟩
              obtain ⟨ro, rc, rg, rfl, hl, _⟩ := HW1.out.read t.size hrow
              rw [hwas.out, her.out]
              exact ⟨⟨ro, rc, rg, rfl, hl⟩, h2, t⟩
            rw [hw] at HR HB1
            go_wp2_with fail
            refine HR.out.mono ?_
            rintro e w3a ⟨⟨ro, rc, rg, rfl, hwl⟩, h2, t2⟩
            have HB2 : Hid (Free F w3a wr.heap.size ∧ w3a.heap[wr.heap.size]? = some (.cells #[.int .i64 1, .int .i64 x.n, .string x.name, .string x.tgt, .slice x.bo x.b.length x.bcap, .slice x.ko x.keep.length x.kcap] 32 (0, 0))) := ⟨HB1.out.1.touch t2, (t2.block _ HB1.out.1.lt id).trans HB1.out.2⟩
            have HWL : Hid (LF F w3a rg ro was) := hwl
            have HW2 : Hid (Live w2 w3a d F s) := h2
            have k22 : w3a.cell? ⟨wr.heap.size, 2, none⟩ = some (.string x.name) := by rw [cell_of_block HB2.out.2]; rfl
            have k42 : w3a.cell? ⟨wr.heap.size, 4, none⟩ = some (.slice x.bo x.b.length x.bcap) := by rw [cell_of_block HB2.out.2]; rfl
            have HX2 := lUsed HW2.out
            have HU2 : Hid (Calls Try.prog 40 #[dp d] w3a fun e w' => e = .returned (.int .i64 (U : Int)) ∧ w' = w3a) := by rw [HUs.out] at HX2; exact HX2
            have HA2 : Hid (Calls Try.prog 14 #[dp d, .string x.name, .slice x.bo x.b.length x.bcap] w3a fun e w' => e = .returned (.int .i64 E) ∧ LPost w2 d F (mAppend s x.nm x.b) w3a w') := by
              rw [hE.out]
              exact lAppend HW2.out hsl x.name (by omega) x.bg x.bo x.b x.b.length x.bcap rfl HX.out.bno (HX.out.bl.keep fun e => (HW2.out.since.block x.bg (HX.out.bl.lt e) id)) HX.out.blen
            clear HX2 hwl h2 t2 HR HW1 HB1
            go_wp2_with fail
            refine HU2.out.mono ?_
            rintro e w3b ⟨rfl, hw2⟩
            rw [hw2]; clear hw2
            go_wp2_with fail
            refine HA2.out.mono ?_
            rintro e w3c ⟨rfl, F4, h3, hs⟩
            have HB3 : Hid (Free F4 w3c wr.heap.size ∧ w3c.heap[wr.heap.size]? = some (.cells #[.int .i64 1, .int .i64 x.n, .string x.name, .string x.tgt, .slice x.bo x.b.length x.bcap, .slice x.ko x.keep.length x.kcap] 32 (0, 0))) := ⟨HB2.out.1.step hs, (HB2.out.1.same hs).trans HB2.out.2⟩
            have HWL3 : Hid (LF F4 w3c rg ro was) := HWL.out.step hs
            have HW3 : Hid (Live w2 w3c d F4 (mAppend s x.nm x.b)) := h3
            obtain ⟨now, hnow⟩ : ∃ now, Hid (now = mRead (mAppend s x.nm x.b) x.nm) := ⟨_, rfl⟩
            obtain ⟨er2, her2⟩ : ∃ er2, Hid (er2 = (mAppend s x.nm x.b).err x.nm) := ⟨_, rfl⟩
            have hsl2 : (mAppend s x.nm x.b).fs.length ≤ 1073741823 := by have := HN1.out.len; omega
            have k23 : w3c.cell? ⟨wr.heap.size, 2, none⟩ = some (.string x.name) := by rw [cell_of_block HB3.out.2]; rfl
            have k43 : w3c.cell? ⟨wr.heap.size, 4, none⟩ = some (.slice x.bo x.b.length x.bcap) := by rw [cell_of_block HB3.out.2]; rfl
            have HR3 : Hid (Calls Try.prog 25 #[dp d, .string x.name] w3c fun e w' => (∃ ro rc rg, e = .returned (.tuple #[.slice ro now.length rc, .int .i64 er2]) ∧ LF F4 w' rg ro now) ∧ Live w2 w' d F4 (mAppend s x.nm x.b) ∧ Touch (fun _ => False) w3c w') := by
              refine (lRead HW3.out hsl2 x.name (by omega)).mono ?_
              rintro e w' ⟨⟨v, rfl, hrow⟩, h2, t⟩
              obtain ⟨ro, rc, rg, rfl, hl, _⟩ := HW3.out.read t.size hrow
              rw [hnow.out, her2.out]
              exact ⟨⟨ro, rc, rg, rfl, hl⟩, h2, t⟩
            clear h3 hs HB2 HWL HW2 HU2 HA2 k22 k42
            go_wp2_with fail
            refine HR3.out.mono ?_
            rintro e w4 ⟨⟨so, sc, sg, rfl, hnl⟩, h4, t4⟩
            have HB4 : Hid (Free F4 w4 wr.heap.size ∧ w4.heap[wr.heap.size]? = some (.cells #[.int .i64 1, .int .i64 x.n, .string x.name, .string x.tgt, .slice x.bo x.b.length x.bcap, .slice x.ko x.keep.length x.kcap] 32 (0, 0))) := ⟨HB3.out.1.touch t4, (t4.block _ HB3.out.1.lt id).trans HB3.out.2⟩
            have HWL4 : Hid (LF F4 w4 rg ro was ∧ LF F4 w4 sg so now) := ⟨HWL3.out.touch t4, hnl⟩
            have HW4 : Hid (Live w2 w4 d F4 (mAppend s x.nm x.b)) := h4
            obtain ⟨U2, hU2⟩ : ∃ U2, Hid (U2 = (mAppend s x.nm x.b).used) := ⟨_, rfl⟩
            have k24 : w4.cell? ⟨wr.heap.size, 2, none⟩ = some (.string x.name) := by rw [cell_of_block HB4.out.2]; rfl
            have k44 : w4.cell? ⟨wr.heap.size, 4, none⟩ = some (.slice x.bo x.b.length x.bcap) := by rw [cell_of_block HB4.out.2]; rfl
            have HX2 := lUsed HW4.out
            have HU4 : Hid (Calls Try.prog 40 #[dp d] w4 fun e w' => e = .returned (.int .i64 (U2 : Int)) ∧ w' = w4) := by rw [← hU2.out] at HX2; exact HX2
            have hu2 : U2 ≤ c := by rw [hU2.out]; exact HN1.out.used
            have HEnd : Hid (∃ s F, Live w2 w4 d F s ∧ RI c (k + 1) s) := ⟨_, _, HW4.out, HN1.out⟩
            have hzn : (x.nm).length = x.name.size := by unfold StepV.nm; rw [Array.length_toList]; rfl
            have hEn : E ≠ 0 := fun h0 => by
              have := HIc.out.1 h0
              unfold isNm at this
              rw [hzn] at this
              simp at this
              omega
            have hE1 : (E == 0) = false := by simpa using hEn
            have hms : mAppend s x.nm x.b = s := by unfold mAppend; rw [if_neg (by rw [← hE.out]; exact hEn)]
            have hnw : now = was := by rw [hnow.out, hwas.out, hms]
            have hee : er2 = er := by rw [her2.out, her.out, hms]
            have hUU : U2 = U := by rw [hU2.out, hms]; exact HUs.out
            have HBy : Hid (Calls Try.prog 27 #[.slice ro was.length rc, .slice so now.length sc] w4 fun e w' => e = .returned (.bool true) ∧ w' = w4) := by
              have := help_bytes rg sg ro so was now was.length now.length rc sc rfl rfl w4 HWL4.out.1.lies HWL4.out.2.lies
              rw [show (was == now) = true from by rw [hnw]; simp] at this
              exact this
            clear h4 t4 hnl HB3 HWL3 HW3 HR3 k23 k43 hnow hwas her her2 HX2 hU2 hE HIc hzn HRS hms HWL4
            subst hnw hee hUU
            go_wp2_with fail
            refine HBy.out.mono ?_
            rintro e w5 ⟨rfl, hw5⟩
            rw [hw5]; clear hw5
            go_wp2_with fail
            refine HU4.out.mono ?_
            rintro e w5 ⟨rfl, hw⟩
            rw [hw]; clear hw
            go_wp2_with fail
            refine HU4.out.mono ?_
            rintro e w5 ⟨rfl, hw⟩
            rw [hw]; clear hw
            go_wp2_with fail
            go_roundw
            case rel => exact ⟨k + 1, by go_num, by omega, HEnd.out⟩
            case measure => simp [intOf]; omega
        have hw1 : (x.what == 1) = false := by simpa using hw
        have hv1 : ¬ x.what = 1 := hw
        clear hw
        by_cases hw : x.what = 2
        · by_cases f1 : U + x.b.length ≤ c
          · have g1 : (U : Int) + (x.b.length : Int) ≤ (c : Int) := by omega
            by_cases f2 : 1 ≤ x.name.size
            · by_cases f3 : x.name.size ≤ 32
              · rw [hw] at a0
                have HRS : Hid (rS s x = mAppend s x.nm x.b) := by unfold rS StepV.app; simp [hw, Hid]
                rw [HRS.out] at HN1
                obtain ⟨was, hwas⟩ : ∃ was, Hid (was = mRead s x.nm) := ⟨_, rfl⟩
                obtain ⟨er, her⟩ : ∃ er, Hid (er = s.err x.nm) := ⟨_, rfl⟩
                obtain ⟨E, hE⟩ : ∃ E, Hid (E = appE s x.nm x.b) := ⟨_, rfl⟩
                rw [← hE.out] at HIc
                have HIc : Hid (E = 0 ↔ (isNm x.nm = true ∧ U + x.b.length ≤ c)) := HIc
                have HR : Hid (Calls Try.prog 25 #[dp d, .string x.name] (wr.alloc (.cells #[.int .i64 x.what, .int .i64 x.n, .string x.name, .string x.tgt, .slice x.bo x.b.length x.bcap, .slice x.ko x.keep.length x.kcap] 32)) fun e w' => (∃ ro rc rg, e = .returned (.tuple #[.slice ro was.length rc, .int .i64 er]) ∧ LF F w' rg ro was) ∧ Live w2 w' d F s ∧ Touch (fun _ => False) (wr.alloc (.cells #[.int .i64 x.what, .int .i64 x.n, .string x.name, .string x.tgt, .slice x.bo x.b.length x.bcap, .slice x.ko x.keep.length x.kcap] 32)) w') := by
                  refine (lRead HW1.out hsl x.name (by omega)).mono ?_
                  rintro e w' ⟨⟨v, rfl, hrow⟩, h2, t⟩
                  obtain ⟨ro, rc, rg, rfl, hl, _⟩ := HW1.out.read t.size hrow
                  rw [hwas.out, her.out]
                  exact ⟨⟨ro, rc, rg, rfl, hl⟩, h2, t⟩
                rw [hw] at HR HB1
                go_wp2_with fail
                refine HR.out.mono ?_
                rintro e w3a ⟨⟨ro, rc, rg, rfl, hwl⟩, h2, t2⟩
                have HB2 : Hid (Free F w3a wr.heap.size ∧ w3a.heap[wr.heap.size]? = some (.cells #[.int .i64 2, .int .i64 x.n, .string x.name, .string x.tgt, .slice x.bo x.b.length x.bcap, .slice x.ko x.keep.length x.kcap] 32 (0, 0))) := ⟨HB1.out.1.touch t2, (t2.block _ HB1.out.1.lt id).trans HB1.out.2⟩
                have HWL : Hid (LF F w3a rg ro was) := hwl
                have HW2 : Hid (Live w2 w3a d F s) := h2
                have k22 : w3a.cell? ⟨wr.heap.size, 2, none⟩ = some (.string x.name) := by rw [cell_of_block HB2.out.2]; rfl
                have k42 : w3a.cell? ⟨wr.heap.size, 4, none⟩ = some (.slice x.bo x.b.length x.bcap) := by rw [cell_of_block HB2.out.2]; rfl
                have HX2 := lUsed HW2.out
                have HU2 : Hid (Calls Try.prog 40 #[dp d] w3a fun e w' => e = .returned (.int .i64 (U : Int)) ∧ w' = w3a) := by rw [HUs.out] at HX2; exact HX2
                have HA2 : Hid (Calls Try.prog 14 #[dp d, .string x.name, .slice x.bo x.b.length x.bcap] w3a fun e w' => e = .returned (.int .i64 E) ∧ LPost w2 d F (mAppend s x.nm x.b) w3a w') := by
                  rw [hE.out]
                  exact lAppend HW2.out hsl x.name (by omega) x.bg x.bo x.b x.b.length x.bcap rfl HX.out.bno (HX.out.bl.keep fun e => (HW2.out.since.block x.bg (HX.out.bl.lt e) id)) HX.out.blen
                clear HX2 hwl h2 t2 HR HW1 HB1
                go_wp2_with fail
                refine HU2.out.mono ?_
                rintro e w3b ⟨rfl, hw2⟩
                rw [hw2]; clear hw2
                go_wp2_with fail
                refine HA2.out.mono ?_
                rintro e w3c ⟨rfl, F4, h3, hs⟩
                have HB3 : Hid (Free F4 w3c wr.heap.size ∧ w3c.heap[wr.heap.size]? = some (.cells #[.int .i64 2, .int .i64 x.n, .string x.name, .string x.tgt, .slice x.bo x.b.length x.bcap, .slice x.ko x.keep.length x.kcap] 32 (0, 0))) := ⟨HB2.out.1.step hs, (HB2.out.1.same hs).trans HB2.out.2⟩
                have HWL3 : Hid (LF F4 w3c rg ro was) := HWL.out.step hs
                have HW3 : Hid (Live w2 w3c d F4 (mAppend s x.nm x.b)) := h3
                obtain ⟨now, hnow⟩ : ∃ now, Hid (now = mRead (mAppend s x.nm x.b) x.nm) := ⟨_, rfl⟩
                obtain ⟨er2, her2⟩ : ∃ er2, Hid (er2 = (mAppend s x.nm x.b).err x.nm) := ⟨_, rfl⟩
                have hsl2 : (mAppend s x.nm x.b).fs.length ≤ 1073741823 := by have := HN1.out.len; omega
                have k23 : w3c.cell? ⟨wr.heap.size, 2, none⟩ = some (.string x.name) := by rw [cell_of_block HB3.out.2]; rfl
                have k43 : w3c.cell? ⟨wr.heap.size, 4, none⟩ = some (.slice x.bo x.b.length x.bcap) := by rw [cell_of_block HB3.out.2]; rfl
                have HR3 : Hid (Calls Try.prog 25 #[dp d, .string x.name] w3c fun e w' => (∃ ro rc rg, e = .returned (.tuple #[.slice ro now.length rc, .int .i64 er2]) ∧ LF F4 w' rg ro now) ∧ Live w2 w' d F4 (mAppend s x.nm x.b) ∧ Touch (fun _ => False) w3c w') := by
                  refine (lRead HW3.out hsl2 x.name (by omega)).mono ?_
                  rintro e w' ⟨⟨v, rfl, hrow⟩, h2, t⟩
                  obtain ⟨ro, rc, rg, rfl, hl, _⟩ := HW3.out.read t.size hrow
                  rw [hnow.out, her2.out]
                  exact ⟨⟨ro, rc, rg, rfl, hl⟩, h2, t⟩
                clear h3 hs HB2 HWL HW2 HU2 HA2 k22 k42
                go_wp2_with fail
                refine HR3.out.mono ?_
                rintro e w4 ⟨⟨so, sc, sg, rfl, hnl⟩, h4, t4⟩
                have HB4 : Hid (Free F4 w4 wr.heap.size ∧ w4.heap[wr.heap.size]? = some (.cells #[.int .i64 2, .int .i64 x.n, .string x.name, .string x.tgt, .slice x.bo x.b.length x.bcap, .slice x.ko x.keep.length x.kcap] 32 (0, 0))) := ⟨HB3.out.1.touch t4, (t4.block _ HB3.out.1.lt id).trans HB3.out.2⟩
                have HWL4 : Hid (LF F4 w4 rg ro was ∧ LF F4 w4 sg so now) := ⟨HWL3.out.touch t4, hnl⟩
                have HW4 : Hid (Live w2 w4 d F4 (mAppend s x.nm x.b)) := h4
                obtain ⟨U2, hU2⟩ : ∃ U2, Hid (U2 = (mAppend s x.nm x.b).used) := ⟨_, rfl⟩
                have k24 : w4.cell? ⟨wr.heap.size, 2, none⟩ = some (.string x.name) := by rw [cell_of_block HB4.out.2]; rfl
                have k44 : w4.cell? ⟨wr.heap.size, 4, none⟩ = some (.slice x.bo x.b.length x.bcap) := by rw [cell_of_block HB4.out.2]; rfl
                have HX2 := lUsed HW4.out
                have HU4 : Hid (Calls Try.prog 40 #[dp d] w4 fun e w' => e = .returned (.int .i64 (U2 : Int)) ∧ w' = w4) := by rw [← hU2.out] at HX2; exact HX2
                have hu2 : U2 ≤ c := by rw [hU2.out]; exact HN1.out.used
                have HEnd : Hid (∃ s F, Live w2 w4 d F s ∧ RI c (k + 1) s) := ⟨_, _, HW4.out, HN1.out⟩
                have hzn : (x.nm).length = x.name.size := by unfold StepV.nm; rw [Array.length_toList]; rfl
                have hE0 : E = 0 := HIc.out.2 ⟨by unfold isNm; rw [hzn]; simp; omega, by omega⟩
                have hnl2 : now.length = was.length + x.b.length := by rw [hnow.out, hwas.out, read_app HI.out.power _ _ (hE.out.symm.trans hE0), List.length_append]
                have hnI : (now.length : Int) = (was.length : Int) + (x.b.length : Int) := by omega
                have hwb : was.length ≤ 200 := by rw [hwas.out, read_at HI.out.power]; have := at_le (s := s) x.nm; have := HI.out.used; omega
                subst hE0
                clear h4 t4 hnl HB3 HWL3 HW3 HR3 k23 k43 hnow hwas her her2 HX2 hU2 hE HIc hzn hnl2 HRS
                go_wp2_with fail
                refine HU4.out.mono ?_
                rintro e w5 ⟨rfl, hw⟩
                rw [hw]; clear hw
                go_wp2_with fail
                go_roundw
                case rel => exact ⟨k + 1, by go_num, by omega, HEnd.out⟩
                case measure => simp [intOf]; omega
              · rw [hw] at a0
                have HRS : Hid (rS s x = mAppend s x.nm x.b) := by unfold rS StepV.app; simp [hw, Hid]
                rw [HRS.out] at HN1
                obtain ⟨was, hwas⟩ : ∃ was, Hid (was = mRead s x.nm) := ⟨_, rfl⟩
                obtain ⟨er, her⟩ : ∃ er, Hid (er = s.err x.nm) := ⟨_, rfl⟩
                obtain ⟨E, hE⟩ : ∃ E, Hid (E = appE s x.nm x.b) := ⟨_, rfl⟩
                rw [← hE.out] at HIc
                have HIc : Hid (E = 0 ↔ (isNm x.nm = true ∧ U + x.b.length ≤ c)) := HIc
                have HR : Hid (Calls Try.prog 25 #[dp d, .string x.name] (wr.alloc (.cells #[.int .i64 x.what, .int .i64 x.n, .string x.name, .string x.tgt, .slice x.bo x.b.length x.bcap, .slice x.ko x.keep.length x.kcap] 32)) fun e w' => (∃ ro rc rg, e = .returned (.tuple #[.slice ro was.length rc, .int .i64 er]) ∧ LF F w' rg ro was) ∧ Live w2 w' d F s ∧ Touch (fun _ => False) (wr.alloc (.cells #[.int .i64 x.what, .int .i64 x.n, .string x.name, .string x.tgt, .slice x.bo x.b.length x.bcap, .slice x.ko x.keep.length x.kcap] 32)) w') := by
                  refine (lRead HW1.out hsl x.name (by omega)).mono ?_
                  rintro e w' ⟨⟨v, rfl, hrow⟩, h2, t⟩
                  obtain ⟨ro, rc, rg, rfl, hl, _⟩ := HW1.out.read t.size hrow
                  rw [hwas.out, her.out]
                  exact ⟨⟨ro, rc, rg, rfl, hl⟩, h2, t⟩
                rw [hw] at HR HB1
                go_wp2_with fail
                refine HR.out.mono ?_
                rintro e w3a ⟨⟨ro, rc, rg, rfl, hwl⟩, h2, t2⟩
                have HB2 : Hid (Free F w3a wr.heap.size ∧ w3a.heap[wr.heap.size]? = some (.cells #[.int .i64 2, .int .i64 x.n, .string x.name, .string x.tgt, .slice x.bo x.b.length x.bcap, .slice x.ko x.keep.length x.kcap] 32 (0, 0))) := ⟨HB1.out.1.touch t2, (t2.block _ HB1.out.1.lt id).trans HB1.out.2⟩
                have HWL : Hid (LF F w3a rg ro was) := hwl
                have HW2 : Hid (Live w2 w3a d F s) := h2
                have k22 : w3a.cell? ⟨wr.heap.size, 2, none⟩ = some (.string x.name) := by rw [cell_of_block HB2.out.2]; rfl
                have k42 : w3a.cell? ⟨wr.heap.size, 4, none⟩ = some (.slice x.bo x.b.length x.bcap) := by rw [cell_of_block HB2.out.2]; rfl
                have HX2 := lUsed HW2.out
                have HU2 : Hid (Calls Try.prog 40 #[dp d] w3a fun e w' => e = .returned (.int .i64 (U : Int)) ∧ w' = w3a) := by rw [HUs.out] at HX2; exact HX2
                have HA2 : Hid (Calls Try.prog 14 #[dp d, .string x.name, .slice x.bo x.b.length x.bcap] w3a fun e w' => e = .returned (.int .i64 E) ∧ LPost w2 d F (mAppend s x.nm x.b) w3a w') := by
                  rw [hE.out]
                  exact lAppend HW2.out hsl x.name (by omega) x.bg x.bo x.b x.b.length x.bcap rfl HX.out.bno (HX.out.bl.keep fun e => (HW2.out.since.block x.bg (HX.out.bl.lt e) id)) HX.out.blen
                clear HX2 hwl h2 t2 HR HW1 HB1
                go_wp2_with fail
                refine HU2.out.mono ?_
                rintro e w3b ⟨rfl, hw2⟩
                rw [hw2]; clear hw2
                go_wp2_with fail
                refine HA2.out.mono ?_
                rintro e w3c ⟨rfl, F4, h3, hs⟩
                have HB3 : Hid (Free F4 w3c wr.heap.size ∧ w3c.heap[wr.heap.size]? = some (.cells #[.int .i64 2, .int .i64 x.n, .string x.name, .string x.tgt, .slice x.bo x.b.length x.bcap, .slice x.ko x.keep.length x.kcap] 32 (0, 0))) := ⟨HB2.out.1.step hs, (HB2.out.1.same hs).trans HB2.out.2⟩
                have HWL3 : Hid (LF F4 w3c rg ro was) := HWL.out.step hs
                have HW3 : Hid (Live w2 w3c d F4 (mAppend s x.nm x.b)) := h3
                obtain ⟨now, hnow⟩ : ∃ now, Hid (now = mRead (mAppend s x.nm x.b) x.nm) := ⟨_, rfl⟩
                obtain ⟨er2, her2⟩ : ∃ er2, Hid (er2 = (mAppend s x.nm x.b).err x.nm) := ⟨_, rfl⟩
                have hsl2 : (mAppend s x.nm x.b).fs.length ≤ 1073741823 := by have := HN1.out.len; omega
                have k23 : w3c.cell? ⟨wr.heap.size, 2, none⟩ = some (.string x.name) := by rw [cell_of_block HB3.out.2]; rfl
                have k43 : w3c.cell? ⟨wr.heap.size, 4, none⟩ = some (.slice x.bo x.b.length x.bcap) := by rw [cell_of_block HB3.out.2]; rfl
                have HR3 : Hid (Calls Try.prog 25 #[dp d, .string x.name] w3c fun e w' => (∃ ro rc rg, e = .returned (.tuple #[.slice ro now.length rc, .int .i64 er2]) ∧ LF F4 w' rg ro now) ∧ Live w2 w' d F4 (mAppend s x.nm x.b) ∧ Touch (fun _ => False) w3c w') := by
                  refine (lRead HW3.out hsl2 x.name (by omega)).mono ?_
                  rintro e w' ⟨⟨v, rfl, hrow⟩, h2, t⟩
                  obtain ⟨ro, rc, rg, rfl, hl, _⟩ := HW3.out.read t.size hrow
                  rw [hnow.out, her2.out]
                  exact ⟨⟨ro, rc, rg, rfl, hl⟩, h2, t⟩
                clear h3 hs HB2 HWL HW2 HU2 HA2 k22 k42
                go_wp2_with fail
                refine HR3.out.mono ?_
                rintro e w4 ⟨⟨so, sc, sg, rfl, hnl⟩, h4, t4⟩
                have HB4 : Hid (Free F4 w4 wr.heap.size ∧ w4.heap[wr.heap.size]? = some (.cells #[.int .i64 2, .int .i64 x.n, .string x.name, .string x.tgt, .slice x.bo x.b.length x.bcap, .slice x.ko x.keep.length x.kcap] 32 (0, 0))) := ⟨HB3.out.1.touch t4, (t4.block _ HB3.out.1.lt id).trans HB3.out.2⟩
                have HWL4 : Hid (LF F4 w4 rg ro was ∧ LF F4 w4 sg so now) := ⟨HWL3.out.touch t4, hnl⟩
                have HW4 : Hid (Live w2 w4 d F4 (mAppend s x.nm x.b)) := h4
                obtain ⟨U2, hU2⟩ : ∃ U2, Hid (U2 = (mAppend s x.nm x.b).used) := ⟨_, rfl⟩
                have k24 : w4.cell? ⟨wr.heap.size, 2, none⟩ = some (.string x.name) := by rw [cell_of_block HB4.out.2]; rfl
                have k44 : w4.cell? ⟨wr.heap.size, 4, none⟩ = some (.slice x.bo x.b.length x.bcap) := by rw [cell_of_block HB4.out.2]; rfl
                have HX2 := lUsed HW4.out
                have HU4 : Hid (Calls Try.prog 40 #[dp d] w4 fun e w' => e = .returned (.int .i64 (U2 : Int)) ∧ w' = w4) := by rw [← hU2.out] at HX2; exact HX2
                have hu2 : U2 ≤ c := by rw [hU2.out]; exact HN1.out.used
                have HEnd : Hid (∃ s F, Live w2 w4 d F s ∧ RI c (k + 1) s) := ⟨_, _, HW4.out, HN1.out⟩
                have hzn : (x.nm).length = x.name.size := by unfold StepV.nm; rw [Array.length_toList]; rfl
                have hEn : E ≠ 0 := fun h0 => by
                  have := HIc.out.1 h0
                  unfold isNm at this
                  rw [hzn] at this
                  simp at this
                  omega
                have hE1 : (E == 0) = false := by simpa using hEn
                have hms : mAppend s x.nm x.b = s := by unfold mAppend; rw [if_neg (by rw [← hE.out]; exact hEn)]
                have hnw : now = was := by rw [hnow.out, hwas.out, hms]
                have hee : er2 = er := by rw [her2.out, her.out, hms]
                have hUU : U2 = U := by rw [hU2.out, hms]; exact HUs.out
                have HBy : Hid (Calls Try.prog 27 #[.slice ro was.length rc, .slice so now.length sc] w4 fun e w' => e = .returned (.bool true) ∧ w' = w4) := by
                  have := help_bytes rg sg ro so was now was.length now.length rc sc rfl rfl w4 HWL4.out.1.lies HWL4.out.2.lies
                  rw [show (was == now) = true from by rw [hnw]; simp] at this
                  exact this
                clear h4 t4 hnl HB3 HWL3 HW3 HR3 k23 k43 hnow hwas her her2 HX2 hU2 hE HIc hzn HRS hms HWL4
                subst hnw hee hUU
                go_wp2_with fail
                refine HBy.out.mono ?_
                rintro e w5 ⟨rfl, hw5⟩
                rw [hw5]; clear hw5
                go_wp2_with fail
                refine HU4.out.mono ?_
                rintro e w5 ⟨rfl, hw⟩
                rw [hw]; clear hw
                go_wp2_with fail
                refine HU4.out.mono ?_
                rintro e w5 ⟨rfl, hw⟩
                rw [hw]; clear hw
                go_wp2_with fail
                go_roundw
                case rel => exact ⟨k + 1, by go_num, by omega, HEnd.out⟩
                case measure => simp [intOf]; omega
            · rw [hw] at a0
              have HRS : Hid (rS s x = mAppend s x.nm x.b) := by unfold rS StepV.app; simp [hw, Hid]
              rw [HRS.out] at HN1
              obtain ⟨was, hwas⟩ : ∃ was, Hid (was = mRead s x.nm) := ⟨_, rfl⟩
              obtain ⟨er, her⟩ : ∃ er, Hid (er = s.err x.nm) := ⟨_, rfl⟩
              obtain ⟨E, hE⟩ : ∃ E, Hid (E = appE s x.nm x.b) := ⟨_, rfl⟩
              rw [← hE.out] at HIc
              have HIc : Hid (E = 0 ↔ (isNm x.nm = true ∧ U + x.b.length ≤ c)) := HIc
              have HR : Hid (Calls Try.prog 25 #[dp d, .string x.name] (wr.alloc (.cells #[.int .i64 x.what, .int .i64 x.n, .string x.name, .string x.tgt, .slice x.bo x.b.length x.bcap, .slice x.ko x.keep.length x.kcap] 32)) fun e w' => (∃ ro rc rg, e = .returned (.tuple #[.slice ro was.length rc, .int .i64 er]) ∧ LF F w' rg ro was) ∧ Live w2 w' d F s ∧ Touch (fun _ => False) (wr.alloc (.cells #[.int .i64 x.what, .int .i64 x.n, .string x.name, .string x.tgt, .slice x.bo x.b.length x.bcap, .slice x.ko x.keep.length x.kcap] 32)) w') := by
                refine (lRead HW1.out hsl x.name (by omega)).mono ?_
                rintro e w' ⟨⟨v, rfl, hrow⟩, h2, t⟩
                obtain ⟨ro, rc, rg, rfl, hl, _⟩ := HW1.out.read t.size hrow
                rw [hwas.out, her.out]
                exact ⟨⟨ro, rc, rg, rfl, hl⟩, h2, t⟩
              rw [hw] at HR HB1
              go_wp2_with fail
              refine HR.out.mono ?_
              rintro e w3a ⟨⟨ro, rc, rg, rfl, hwl⟩, h2, t2⟩
              have HB2 : Hid (Free F w3a wr.heap.size ∧ w3a.heap[wr.heap.size]? = some (.cells #[.int .i64 2, .int .i64 x.n, .string x.name, .string x.tgt, .slice x.bo x.b.length x.bcap, .slice x.ko x.keep.length x.kcap] 32 (0, 0))) := ⟨HB1.out.1.touch t2, (t2.block _ HB1.out.1.lt id).trans HB1.out.2⟩
              have HWL : Hid (LF F w3a rg ro was) := hwl
              have HW2 : Hid (Live w2 w3a d F s) := h2
              have k22 : w3a.cell? ⟨wr.heap.size, 2, none⟩ = some (.string x.name) := by rw [cell_of_block HB2.out.2]; rfl
              have k42 : w3a.cell? ⟨wr.heap.size, 4, none⟩ = some (.slice x.bo x.b.length x.bcap) := by rw [cell_of_block HB2.out.2]; rfl
              have HX2 := lUsed HW2.out
              have HU2 : Hid (Calls Try.prog 40 #[dp d] w3a fun e w' => e = .returned (.int .i64 (U : Int)) ∧ w' = w3a) := by rw [HUs.out] at HX2; exact HX2
              have HA2 : Hid (Calls Try.prog 14 #[dp d, .string x.name, .slice x.bo x.b.length x.bcap] w3a fun e w' => e = .returned (.int .i64 E) ∧ LPost w2 d F (mAppend s x.nm x.b) w3a w') := by
                rw [hE.out]
                exact lAppend HW2.out hsl x.name (by omega) x.bg x.bo x.b x.b.length x.bcap rfl HX.out.bno (HX.out.bl.keep fun e => (HW2.out.since.block x.bg (HX.out.bl.lt e) id)) HX.out.blen
              clear HX2 hwl h2 t2 HR HW1 HB1
              go_wp2_with fail
              refine HU2.out.mono ?_
              rintro e w3b ⟨rfl, hw2⟩
              rw [hw2]; clear hw2
              go_wp2_with fail
              refine HA2.out.mono ?_
              rintro e w3c ⟨rfl, F4, h3, hs⟩
              have HB3 : Hid (Free F4 w3c wr.heap.size ∧ w3c.heap[wr.heap.size]? = some (.cells #[.int .i64 2, .int .i64 x.n, .string x.name, .string x.tgt, .slice x.bo x.b.length x.bcap, .slice x.ko x.keep.length x.kcap] 32 (0, 0))) := ⟨HB2.out.1.step hs, (HB2.out.1.same hs).trans HB2.out.2⟩
              have HWL3 : Hid (LF F4 w3c rg ro was) := HWL.out.step hs
              have HW3 : Hid (Live w2 w3c d F4 (mAppend s x.nm x.b)) := h3
              obtain ⟨now, hnow⟩ : ∃ now, Hid (now = mRead (mAppend s x.nm x.b) x.nm) := ⟨_, rfl⟩
              obtain ⟨er2, her2⟩ : ∃ er2, Hid (er2 = (mAppend s x.nm x.b).err x.nm) := ⟨_, rfl⟩
              have hsl2 : (mAppend s x.nm x.b).fs.length ≤ 1073741823 := by have := HN1.out.len; omega
              have k23 : w3c.cell? ⟨wr.heap.size, 2, none⟩ = some (.string x.name) := by rw [cell_of_block HB3.out.2]; rfl
              have k43 : w3c.cell? ⟨wr.heap.size, 4, none⟩ = some (.slice x.bo x.b.length x.bcap) := by rw [cell_of_block HB3.out.2]; rfl
              have HR3 : Hid (Calls Try.prog 25 #[dp d, .string x.name] w3c fun e w' => (∃ ro rc rg, e = .returned (.tuple #[.slice ro now.length rc, .int .i64 er2]) ∧ LF F4 w' rg ro now) ∧ Live w2 w' d F4 (mAppend s x.nm x.b) ∧ Touch (fun _ => False) w3c w') := by
                refine (lRead HW3.out hsl2 x.name (by omega)).mono ?_
                rintro e w' ⟨⟨v, rfl, hrow⟩, h2, t⟩
                obtain ⟨ro, rc, rg, rfl, hl, _⟩ := HW3.out.read t.size hrow
                rw [hnow.out, her2.out]
                exact ⟨⟨ro, rc, rg, rfl, hl⟩, h2, t⟩
              clear h3 hs HB2 HWL HW2 HU2 HA2 k22 k42
              go_wp2_with fail
              refine HR3.out.mono ?_
              rintro e w4 ⟨⟨so, sc, sg, rfl, hnl⟩, h4, t4⟩
              have HB4 : Hid (Free F4 w4 wr.heap.size ∧ w4.heap[wr.heap.size]? = some (.cells #[.int .i64 2, .int .i64 x.n, .string x.name, .string x.tgt, .slice x.bo x.b.length x.bcap, .slice x.ko x.keep.length x.kcap] 32 (0, 0))) := ⟨HB3.out.1.touch t4, (t4.block _ HB3.out.1.lt id).trans HB3.out.2⟩
              have HWL4 : Hid (LF F4 w4 rg ro was ∧ LF F4 w4 sg so now) := ⟨HWL3.out.touch t4, hnl⟩
              have HW4 : Hid (Live w2 w4 d F4 (mAppend s x.nm x.b)) := h4
              obtain ⟨U2, hU2⟩ : ∃ U2, Hid (U2 = (mAppend s x.nm x.b).used) := ⟨_, rfl⟩
              have k24 : w4.cell? ⟨wr.heap.size, 2, none⟩ = some (.string x.name) := by rw [cell_of_block HB4.out.2]; rfl
              have k44 : w4.cell? ⟨wr.heap.size, 4, none⟩ = some (.slice x.bo x.b.length x.bcap) := by rw [cell_of_block HB4.out.2]; rfl
              have HX2 := lUsed HW4.out
              have HU4 : Hid (Calls Try.prog 40 #[dp d] w4 fun e w' => e = .returned (.int .i64 (U2 : Int)) ∧ w' = w4) := by rw [← hU2.out] at HX2; exact HX2
              have hu2 : U2 ≤ c := by rw [hU2.out]; exact HN1.out.used
              have HEnd : Hid (∃ s F, Live w2 w4 d F s ∧ RI c (k + 1) s) := ⟨_, _, HW4.out, HN1.out⟩
              have hzn : (x.nm).length = x.name.size := by unfold StepV.nm; rw [Array.length_toList]; rfl
              have hEn : E ≠ 0 := fun h0 => by
                have := HIc.out.1 h0
                unfold isNm at this
                rw [hzn] at this
                simp at this
                omega
              have hE1 : (E == 0) = false := by simpa using hEn
              have hms : mAppend s x.nm x.b = s := by unfold mAppend; rw [if_neg (by rw [← hE.out]; exact hEn)]
              have hnw : now = was := by rw [hnow.out, hwas.out, hms]
              have hee : er2 = er := by rw [her2.out, her.out, hms]
              have hUU : U2 = U := by rw [hU2.out, hms]; exact HUs.out
              have HBy : Hid (Calls Try.prog 27 #[.slice ro was.length rc, .slice so now.length sc] w4 fun e w' => e = .returned (.bool true) ∧ w' = w4) := by
                have := help_bytes rg sg ro so was now was.length now.length rc sc rfl rfl w4 HWL4.out.1.lies HWL4.out.2.lies
                rw [show (was == now) = true from by rw [hnw]; simp] at this
                exact this
              clear h4 t4 hnl HB3 HWL3 HW3 HR3 k23 k43 hnow hwas her her2 HX2 hU2 hE HIc hzn HRS hms HWL4
              subst hnw hee hUU
              go_wp2_with fail
              refine HBy.out.mono ?_
              rintro e w5 ⟨rfl, hw5⟩
              rw [hw5]; clear hw5
              go_wp2_with fail
              refine HU4.out.mono ?_
              rintro e w5 ⟨rfl, hw⟩
              rw [hw]; clear hw
              go_wp2_with fail
              refine HU4.out.mono ?_
              rintro e w5 ⟨rfl, hw⟩
              rw [hw]; clear hw
              go_wp2_with fail
              go_roundw
              case rel => exact ⟨k + 1, by go_num, by omega, HEnd.out⟩
              case measure => simp [intOf]; omega
          · have g1 : decide ((U : Int) + (x.b.length : Int) ≤ (c : Int)) = false := by simp; omega
            rw [hw] at a0
            have HRS : Hid (rS s x = mAppend s x.nm x.b) := by unfold rS StepV.app; simp [hw, Hid]
            rw [HRS.out] at HN1
            obtain ⟨was, hwas⟩ : ∃ was, Hid (was = mRead s x.nm) := ⟨_, rfl⟩
            obtain ⟨er, her⟩ : ∃ er, Hid (er = s.err x.nm) := ⟨_, rfl⟩
            obtain ⟨E, hE⟩ : ∃ E, Hid (E = appE s x.nm x.b) := ⟨_, rfl⟩
            rw [← hE.out] at HIc
            have HIc : Hid (E = 0 ↔ (isNm x.nm = true ∧ U + x.b.length ≤ c)) := HIc
            have HR : Hid (Calls Try.prog 25 #[dp d, .string x.name] (wr.alloc (.cells #[.int .i64 x.what, .int .i64 x.n, .string x.name, .string x.tgt, .slice x.bo x.b.length x.bcap, .slice x.ko x.keep.length x.kcap] 32)) fun e w' => (∃ ro rc rg, e = .returned (.tuple #[.slice ro was.length rc, .int .i64 er]) ∧ LF F w' rg ro was) ∧ Live w2 w' d F s ∧ Touch (fun _ => False) (wr.alloc (.cells #[.int .i64 x.what, .int .i64 x.n, .string x.name, .string x.tgt, .slice x.bo x.b.length x.bcap, .slice x.ko x.keep.length x.kcap] 32)) w') := by
              refine (lRead HW1.out hsl x.name (by omega)).mono ?_
              rintro e w' ⟨⟨v, rfl, hrow⟩, h2, t⟩
              obtain ⟨ro, rc, rg, rfl, hl, _⟩ := HW1.out.read t.size hrow
              rw [hwas.out, her.out]
              exact ⟨⟨ro, rc, rg, rfl, hl⟩, h2, t⟩
            rw [hw] at HR HB1
            go_wp2_with fail
            refine HR.out.mono ?_
            rintro e w3a ⟨⟨ro, rc, rg, rfl, hwl⟩, h2, t2⟩
            have HB2 : Hid (Free F w3a wr.heap.size ∧ w3a.heap[wr.heap.size]? = some (.cells #[.int .i64 2, .int .i64 x.n, .string x.name, .string x.tgt, .slice x.bo x.b.length x.bcap, .slice x.ko x.keep.length x.kcap] 32 (0, 0))) := ⟨HB1.out.1.touch t2, (t2.block _ HB1.out.1.lt id).trans HB1.out.2⟩
            have HWL : Hid (LF F w3a rg ro was) := hwl
            have HW2 : Hid (Live w2 w3a d F s) := h2
            have k22 : w3a.cell? ⟨wr.heap.size, 2, none⟩ = some (.string x.name) := by rw [cell_of_block HB2.out.2]; rfl
            have k42 : w3a.cell? ⟨wr.heap.size, 4, none⟩ = some (.slice x.bo x.b.length x.bcap) := by rw [cell_of_block HB2.out.2]; rfl
            have HX2 := lUsed HW2.out
            have HU2 : Hid (Calls Try.prog 40 #[dp d] w3a fun e w' => e = .returned (.int .i64 (U : Int)) ∧ w' = w3a) := by rw [HUs.out] at HX2; exact HX2
            have HA2 : Hid (Calls Try.prog 14 #[dp d, .string x.name, .slice x.bo x.b.length x.bcap] w3a fun e w' => e = .returned (.int .i64 E) ∧ LPost w2 d F (mAppend s x.nm x.b) w3a w') := by
              rw [hE.out]
              exact lAppend HW2.out hsl x.name (by omega) x.bg x.bo x.b x.b.length x.bcap rfl HX.out.bno (HX.out.bl.keep fun e => (HW2.out.since.block x.bg (HX.out.bl.lt e) id)) HX.out.blen
            clear HX2 hwl h2 t2 HR HW1 HB1
            go_wp2_with fail
            refine HU2.out.mono ?_
            rintro e w3b ⟨rfl, hw2⟩
            rw [hw2]; clear hw2
            go_wp2_with fail
            refine HA2.out.mono ?_
            rintro e w3c ⟨rfl, F4, h3, hs⟩
            have HB3 : Hid (Free F4 w3c wr.heap.size ∧ w3c.heap[wr.heap.size]? = some (.cells #[.int .i64 2, .int .i64 x.n, .string x.name, .string x.tgt, .slice x.bo x.b.length x.bcap, .slice x.ko x.keep.length x.kcap] 32 (0, 0))) := ⟨HB2.out.1.step hs, (HB2.out.1.same hs).trans HB2.out.2⟩
            have HWL3 : Hid (LF F4 w3c rg ro was) := HWL.out.step hs
            have HW3 : Hid (Live w2 w3c d F4 (mAppend s x.nm x.b)) := h3
            obtain ⟨now, hnow⟩ : ∃ now, Hid (now = mRead (mAppend s x.nm x.b) x.nm) := ⟨_, rfl⟩
            obtain ⟨er2, her2⟩ : ∃ er2, Hid (er2 = (mAppend s x.nm x.b).err x.nm) := ⟨_, rfl⟩
            have hsl2 : (mAppend s x.nm x.b).fs.length ≤ 1073741823 := by have := HN1.out.len; omega
            have k23 : w3c.cell? ⟨wr.heap.size, 2, none⟩ = some (.string x.name) := by rw [cell_of_block HB3.out.2]; rfl
            have k43 : w3c.cell? ⟨wr.heap.size, 4, none⟩ = some (.slice x.bo x.b.length x.bcap) := by rw [cell_of_block HB3.out.2]; rfl
            have HR3 : Hid (Calls Try.prog 25 #[dp d, .string x.name] w3c fun e w' => (∃ ro rc rg, e = .returned (.tuple #[.slice ro now.length rc, .int .i64 er2]) ∧ LF F4 w' rg ro now) ∧ Live w2 w' d F4 (mAppend s x.nm x.b) ∧ Touch (fun _ => False) w3c w') := by
              refine (lRead HW3.out hsl2 x.name (by omega)).mono ?_
              rintro e w' ⟨⟨v, rfl, hrow⟩, h2, t⟩
              obtain ⟨ro, rc, rg, rfl, hl, _⟩ := HW3.out.read t.size hrow
              rw [hnow.out, her2.out]
              exact ⟨⟨ro, rc, rg, rfl, hl⟩, h2, t⟩
            clear h3 hs HB2 HWL HW2 HU2 HA2 k22 k42
            go_wp2_with fail
            refine HR3.out.mono ?_
            rintro e w4 ⟨⟨so, sc, sg, rfl, hnl⟩, h4, t4⟩
            have HB4 : Hid (Free F4 w4 wr.heap.size ∧ w4.heap[wr.heap.size]? = some (.cells #[.int .i64 2, .int .i64 x.n, .string x.name, .string x.tgt, .slice x.bo x.b.length x.bcap, .slice x.ko x.keep.length x.kcap] 32 (0, 0))) := ⟨HB3.out.1.touch t4, (t4.block _ HB3.out.1.lt id).trans HB3.out.2⟩
            have HWL4 : Hid (LF F4 w4 rg ro was ∧ LF F4 w4 sg so now) := ⟨HWL3.out.touch t4, hnl⟩
            have HW4 : Hid (Live w2 w4 d F4 (mAppend s x.nm x.b)) := h4
            obtain ⟨U2, hU2⟩ : ∃ U2, Hid (U2 = (mAppend s x.nm x.b).used) := ⟨_, rfl⟩
            have k24 : w4.cell? ⟨wr.heap.size, 2, none⟩ = some (.string x.name) := by rw [cell_of_block HB4.out.2]; rfl
            have k44 : w4.cell? ⟨wr.heap.size, 4, none⟩ = some (.slice x.bo x.b.length x.bcap) := by rw [cell_of_block HB4.out.2]; rfl
            have HX2 := lUsed HW4.out
            have HU4 : Hid (Calls Try.prog 40 #[dp d] w4 fun e w' => e = .returned (.int .i64 (U2 : Int)) ∧ w' = w4) := by rw [← hU2.out] at HX2; exact HX2
            have hu2 : U2 ≤ c := by rw [hU2.out]; exact HN1.out.used
            have HEnd : Hid (∃ s F, Live w2 w4 d F s ∧ RI c (k + 1) s) := ⟨_, _, HW4.out, HN1.out⟩
            have hzn : (x.nm).length = x.name.size := by unfold StepV.nm; rw [Array.length_toList]; rfl
            have hEn : E ≠ 0 := fun h0 => by
              have := HIc.out.1 h0
              unfold isNm at this
              rw [hzn] at this
              simp at this
              omega
            have hE1 : (E == 0) = false := by simpa using hEn
            have hms : mAppend s x.nm x.b = s := by unfold mAppend; rw [if_neg (by rw [← hE.out]; exact hEn)]
            have hnw : now = was := by rw [hnow.out, hwas.out, hms]
            have hee : er2 = er := by rw [her2.out, her.out, hms]
            have hUU : U2 = U := by rw [hU2.out, hms]; exact HUs.out
            have HBy : Hid (Calls Try.prog 27 #[.slice ro was.length rc, .slice so now.length sc] w4 fun e w' => e = .returned (.bool true) ∧ w' = w4) := by
              have := help_bytes rg sg ro so was now was.length now.length rc sc rfl rfl w4 HWL4.out.1.lies HWL4.out.2.lies
              rw [show (was == now) = true from by rw [hnw]; simp] at this
              exact this
            clear h4 t4 hnl HB3 HWL3 HW3 HR3 k23 k43 hnow hwas her her2 HX2 hU2 hE HIc hzn HRS hms HWL4
            subst hnw hee hUU
            go_wp2_with fail
            refine HBy.out.mono ?_
            rintro e w5 ⟨rfl, hw5⟩
            rw [hw5]; clear hw5
            go_wp2_with fail
            refine HU4.out.mono ?_
            rintro e w5 ⟨rfl, hw⟩
            rw [hw]; clear hw
            go_wp2_with fail
            refine HU4.out.mono ?_
            rintro e w5 ⟨rfl, hw⟩
            rw [hw]; clear hw
            go_wp2_with fail
            go_roundw
            case rel => exact ⟨k + 1, by go_num, by omega, HEnd.out⟩
            case measure => simp [intOf]; omega
        have hw2 : (x.what == 2) = false := by simpa using hw
        have hv2 : ¬ x.what = 2 := hw
        clear hw
        by_cases hw : x.what = 3
        · by_cases f1 : U + x.b.length ≤ c
          · have g1 : (U : Int) + (x.b.length : Int) ≤ (c : Int) := by omega
            by_cases f2 : 1 ≤ x.name.size
            · by_cases f3 : x.name.size ≤ 32
              · rw [hw] at a0
                have HRS : Hid (rS s x = mAppend s x.nm x.b) := by unfold rS StepV.app; simp [hw, Hid]
                rw [HRS.out] at HN1
                obtain ⟨was, hwas⟩ : ∃ was, Hid (was = mRead s x.nm) := ⟨_, rfl⟩
                obtain ⟨er, her⟩ : ∃ er, Hid (er = s.err x.nm) := ⟨_, rfl⟩
                obtain ⟨E, hE⟩ : ∃ E, Hid (E = appE s x.nm x.b) := ⟨_, rfl⟩
                rw [← hE.out] at HIc
                have HIc : Hid (E = 0 ↔ (isNm x.nm = true ∧ U + x.b.length ≤ c)) := HIc
                have HR : Hid (Calls Try.prog 25 #[dp d, .string x.name] (wr.alloc (.cells #[.int .i64 x.what, .int .i64 x.n, .string x.name, .string x.tgt, .slice x.bo x.b.length x.bcap, .slice x.ko x.keep.length x.kcap] 32)) fun e w' => (∃ ro rc rg, e = .returned (.tuple #[.slice ro was.length rc, .int .i64 er]) ∧ LF F w' rg ro was) ∧ Live w2 w' d F s ∧ Touch (fun _ => False) (wr.alloc (.cells #[.int .i64 x.what, .int .i64 x.n, .string x.name, .string x.tgt, .slice x.bo x.b.length x.bcap, .slice x.ko x.keep.length x.kcap] 32)) w') := by
                  refine (lRead HW1.out hsl x.name (by omega)).mono ?_
                  rintro e w' ⟨⟨v, rfl, hrow⟩, h2, t⟩
                  obtain ⟨ro, rc, rg, rfl, hl, _⟩ := HW1.out.read t.size hrow
                  rw [hwas.out, her.out]
                  exact ⟨⟨ro, rc, rg, rfl, hl⟩, h2, t⟩
                rw [hw] at HR HB1
                go_wp2_with fail
                refine HR.out.mono ?_
                rintro e w3a ⟨⟨ro, rc, rg, rfl, hwl⟩, h2, t2⟩
                have HB2 : Hid (Free F w3a wr.heap.size ∧ w3a.heap[wr.heap.size]? = some (.cells #[.int .i64 3, .int .i64 x.n, .string x.name, .string x.tgt, .slice x.bo x.b.length x.bcap, .slice x.ko x.keep.length x.kcap] 32 (0, 0))) := ⟨HB1.out.1.touch t2, (t2.block _ HB1.out.1.lt id).trans HB1.out.2⟩
                have HWL : Hid (LF F w3a rg ro was) := hwl
                have HW2 : Hid (Live w2 w3a d F s) := h2
                have k22 : w3a.cell? ⟨wr.heap.size, 2, none⟩ = some (.string x.name) := by rw [cell_of_block HB2.out.2]; rfl
                have k42 : w3a.cell? ⟨wr.heap.size, 4, none⟩ = some (.slice x.bo x.b.length x.bcap) := by rw [cell_of_block HB2.out.2]; rfl
                have HX2 := lUsed HW2.out
                have HU2 : Hid (Calls Try.prog 40 #[dp d] w3a fun e w' => e = .returned (.int .i64 (U : Int)) ∧ w' = w3a) := by rw [HUs.out] at HX2; exact HX2
                have HA2 : Hid (Calls Try.prog 14 #[dp d, .string x.name, .slice x.bo x.b.length x.bcap] w3a fun e w' => e = .returned (.int .i64 E) ∧ LPost w2 d F (mAppend s x.nm x.b) w3a w') := by
                  rw [hE.out]
                  exact lAppend HW2.out hsl x.name (by omega) x.bg x.bo x.b x.b.length x.bcap rfl HX.out.bno (HX.out.bl.keep fun e => (HW2.out.since.block x.bg (HX.out.bl.lt e) id)) HX.out.blen
                clear HX2 hwl h2 t2 HR HW1 HB1
                go_wp2_with fail
                refine HU2.out.mono ?_
                rintro e w3b ⟨rfl, hw2⟩
                rw [hw2]; clear hw2
                go_wp2_with fail
                refine HA2.out.mono ?_
                rintro e w3c ⟨rfl, F4, h3, hs⟩
                have HB3 : Hid (Free F4 w3c wr.heap.size ∧ w3c.heap[wr.heap.size]? = some (.cells #[.int .i64 3, .int .i64 x.n, .string x.name, .string x.tgt, .slice x.bo x.b.length x.bcap, .slice x.ko x.keep.length x.kcap] 32 (0, 0))) := ⟨HB2.out.1.step hs, (HB2.out.1.same hs).trans HB2.out.2⟩
                have HWL3 : Hid (LF F4 w3c rg ro was) := HWL.out.step hs
                have HW3 : Hid (Live w2 w3c d F4 (mAppend s x.nm x.b)) := h3
                obtain ⟨now, hnow⟩ : ∃ now, Hid (now = mRead (mAppend s x.nm x.b) x.nm) := ⟨_, rfl⟩
                obtain ⟨er2, her2⟩ : ∃ er2, Hid (er2 = (mAppend s x.nm x.b).err x.nm) := ⟨_, rfl⟩
                have hsl2 : (mAppend s x.nm x.b).fs.length ≤ 1073741823 := by have := HN1.out.len; omega
                have k23 : w3c.cell? ⟨wr.heap.size, 2, none⟩ = some (.string x.name) := by rw [cell_of_block HB3.out.2]; rfl
                have k43 : w3c.cell? ⟨wr.heap.size, 4, none⟩ = some (.slice x.bo x.b.length x.bcap) := by rw [cell_of_block HB3.out.2]; rfl
                have HR3 : Hid (Calls Try.prog 25 #[dp d, .string x.name] w3c fun e w' => (∃ ro rc rg, e = .returned (.tuple #[.slice ro now.length rc, .int .i64 er2]) ∧ LF F4 w' rg ro now) ∧ Live w2 w' d F4 (mAppend s x.nm x.b) ∧ Touch (fun _ => False) w3c w') := by
                  refine (lRead HW3.out hsl2 x.name (by omega)).mono ?_
                  rintro e w' ⟨⟨v, rfl, hrow⟩, h2, t⟩
                  obtain ⟨ro, rc, rg, rfl, hl, _⟩ := HW3.out.read t.size hrow
                  rw [hnow.out, her2.out]
                  exact ⟨⟨ro, rc, rg, rfl, hl⟩, h2, t⟩
                clear h3 hs HB2 HWL HW2 HU2 HA2 k22 k42
                go_wp2_with fail
                refine HR3.out.mono ?_
                rintro e w4 ⟨⟨so, sc, sg, rfl, hnl⟩, h4, t4⟩
                have HB4 : Hid (Free F4 w4 wr.heap.size ∧ w4.heap[wr.heap.size]? = some (.cells #[.int .i64 3, .int .i64 x.n, .string x.name, .string x.tgt, .slice x.bo x.b.length x.bcap, .slice x.ko x.keep.length x.kcap] 32 (0, 0))) := ⟨HB3.out.1.touch t4, (t4.block _ HB3.out.1.lt id).trans HB3.out.2⟩
                have HWL4 : Hid (LF F4 w4 rg ro was ∧ LF F4 w4 sg so now) := ⟨HWL3.out.touch t4, hnl⟩
                have HW4 : Hid (Live w2 w4 d F4 (mAppend s x.nm x.b)) := h4
                obtain ⟨U2, hU2⟩ : ∃ U2, Hid (U2 = (mAppend s x.nm x.b).used) := ⟨_, rfl⟩
                have k24 : w4.cell? ⟨wr.heap.size, 2, none⟩ = some (.string x.name) := by rw [cell_of_block HB4.out.2]; rfl
                have k44 : w4.cell? ⟨wr.heap.size, 4, none⟩ = some (.slice x.bo x.b.length x.bcap) := by rw [cell_of_block HB4.out.2]; rfl
                have HX2 := lUsed HW4.out
                have HU4 : Hid (Calls Try.prog 40 #[dp d] w4 fun e w' => e = .returned (.int .i64 (U2 : Int)) ∧ w' = w4) := by rw [← hU2.out] at HX2; exact HX2
                have hu2 : U2 ≤ c := by rw [hU2.out]; exact HN1.out.used
                have HEnd : Hid (∃ s F, Live w2 w4 d F s ∧ RI c (k + 1) s) := ⟨_, _, HW4.out, HN1.out⟩
                have hzn : (x.nm).length = x.name.size := by unfold StepV.nm; rw [Array.length_toList]; rfl
                have hE0 : E = 0 := HIc.out.2 ⟨by unfold isNm; rw [hzn]; simp; omega, by omega⟩
                have hnl2 : now.length = was.length + x.b.length := by rw [hnow.out, hwas.out, read_app HI.out.power _ _ (hE.out.symm.trans hE0), List.length_append]
                have hnI : (now.length : Int) = (was.length : Int) + (x.b.length : Int) := by omega
                have hwb : was.length ≤ 200 := by rw [hwas.out, read_at HI.out.power]; have := at_le (s := s) x.nm; have := HI.out.used; omega
                subst hE0
                clear h4 t4 hnl HB3 HWL3 HW3 HR3 k23 k43 hnow hwas her her2 HX2 hU2 hE HIc hzn hnl2 HRS
                go_wp2_with fail
                refine HU4.out.mono ?_
                rintro e w5 ⟨rfl, hw⟩
                rw [hw]; clear hw
                go_wp2_with fail
                go_roundw
                case rel => exact ⟨k + 1, by go_num, by omega, HEnd.out⟩
                case measure => simp [intOf]; omega
              · rw [hw] at a0
                have HRS : Hid (rS s x = mAppend s x.nm x.b) := by unfold rS StepV.app; simp [hw, Hid]
                rw [HRS.out] at HN1
                obtain ⟨was, hwas⟩ : ∃ was, Hid (was = mRead s x.nm) := ⟨_, rfl⟩
                obtain ⟨er, her⟩ : ∃ er, Hid (er = s.err x.nm) := ⟨_, rfl⟩
                obtain ⟨E, hE⟩ : ∃ E, Hid (E = appE s x.nm x.b) := ⟨_, rfl⟩
                rw [← hE.out] at HIc
                have HIc : Hid (E = 0 ↔ (isNm x.nm = true ∧ U + x.b.length ≤ c)) := HIc
                have HR : Hid (Calls Try.prog 25 #[dp d, .string x.name] (wr.alloc (.cells #[.int .i64 x.what, .int .i64 x.n, .string x.name, .string x.tgt, .slice x.bo x.b.length x.bcap, .slice x.ko x.keep.length x.kcap] 32)) fun e w' => (∃ ro rc rg, e = .returned (.tuple #[.slice ro was.length rc, .int .i64 er]) ∧ LF F w' rg ro was) ∧ Live w2 w' d F s ∧ Touch (fun _ => False) (wr.alloc (.cells #[.int .i64 x.what, .int .i64 x.n, .string x.name, .string x.tgt, .slice x.bo x.b.length x.bcap, .slice x.ko x.keep.length x.kcap] 32)) w') := by
                  refine (lRead HW1.out hsl x.name (by omega)).mono ?_
                  rintro e w' ⟨⟨v, rfl, hrow⟩, h2, t⟩
                  obtain ⟨ro, rc, rg, rfl, hl, _⟩ := HW1.out.read t.size hrow
                  rw [hwas.out, her.out]
                  exact ⟨⟨ro, rc, rg, rfl, hl⟩, h2, t⟩
                rw [hw] at HR HB1
                go_wp2_with fail
                refine HR.out.mono ?_
                rintro e w3a ⟨⟨ro, rc, rg, rfl, hwl⟩, h2, t2⟩
                have HB2 : Hid (Free F w3a wr.heap.size ∧ w3a.heap[wr.heap.size]? = some (.cells #[.int .i64 3, .int .i64 x.n, .string x.name, .string x.tgt, .slice x.bo x.b.length x.bcap, .slice x.ko x.keep.length x.kcap] 32 (0, 0))) := ⟨HB1.out.1.touch t2, (t2.block _ HB1.out.1.lt id).trans HB1.out.2⟩
                have HWL : Hid (LF F w3a rg ro was) := hwl
                have HW2 : Hid (Live w2 w3a d F s) := h2
                have k22 : w3a.cell? ⟨wr.heap.size, 2, none⟩ = some (.string x.name) := by rw [cell_of_block HB2.out.2]; rfl
                have k42 : w3a.cell? ⟨wr.heap.size, 4, none⟩ = some (.slice x.bo x.b.length x.bcap) := by rw [cell_of_block HB2.out.2]; rfl
                have HX2 := lUsed HW2.out
                have HU2 : Hid (Calls Try.prog 40 #[dp d] w3a fun e w' => e = .returned (.int .i64 (U : Int)) ∧ w' = w3a) := by rw [HUs.out] at HX2; exact HX2
                have HA2 : Hid (Calls Try.prog 14 #[dp d, .string x.name, .slice x.bo x.b.length x.bcap] w3a fun e w' => e = .returned (.int .i64 E) ∧ LPost w2 d F (mAppend s x.nm x.b) w3a w') := by
                  rw [hE.out]
                  exact lAppend HW2.out hsl x.name (by omega) x.bg x.bo x.b x.b.length x.bcap rfl HX.out.bno (HX.out.bl.keep fun e => (HW2.out.since.block x.bg (HX.out.bl.lt e) id)) HX.out.blen
                clear HX2 hwl h2 t2 HR HW1 HB1
                go_wp2_with fail
                refine HU2.out.mono ?_
                rintro e w3b ⟨rfl, hw2⟩
                rw [hw2]; clear hw2
                go_wp2_with fail
                refine HA2.out.mono ?_
                rintro e w3c ⟨rfl, F4, h3, hs⟩
                have HB3 : Hid (Free F4 w3c wr.heap.size ∧ w3c.heap[wr.heap.size]? = some (.cells #[.int .i64 3, .int .i64 x.n, .string x.name, .string x.tgt, .slice x.bo x.b.length x.bcap, .slice x.ko x.keep.length x.kcap] 32 (0, 0))) := ⟨HB2.out.1.step hs, (HB2.out.1.same hs).trans HB2.out.2⟩
                have HWL3 : Hid (LF F4 w3c rg ro was) := HWL.out.step hs
                have HW3 : Hid (Live w2 w3c d F4 (mAppend s x.nm x.b)) := h3
                obtain ⟨now, hnow⟩ : ∃ now, Hid (now = mRead (mAppend s x.nm x.b) x.nm) := ⟨_, rfl⟩
                obtain ⟨er2, her2⟩ : ∃ er2, Hid (er2 = (mAppend s x.nm x.b).err x.nm) := ⟨_, rfl⟩
                have hsl2 : (mAppend s x.nm x.b).fs.length ≤ 1073741823 := by have := HN1.out.len; omega
                have k23 : w3c.cell? ⟨wr.heap.size, 2, none⟩ = some (.string x.name) := by rw [cell_of_block HB3.out.2]; rfl
                have k43 : w3c.cell? ⟨wr.heap.size, 4, none⟩ = some (.slice x.bo x.b.length x.bcap) := by rw [cell_of_block HB3.out.2]; rfl
                have HR3 : Hid (Calls Try.prog 25 #[dp d, .string x.name] w3c fun e w' => (∃ ro rc rg, e = .returned (.tuple #[.slice ro now.length rc, .int .i64 er2]) ∧ LF F4 w' rg ro now) ∧ Live w2 w' d F4 (mAppend s x.nm x.b) ∧ Touch (fun _ => False) w3c w') := by
                  refine (lRead HW3.out hsl2 x.name (by omega)).mono ?_
                  rintro e w' ⟨⟨v, rfl, hrow⟩, h2, t⟩
                  obtain ⟨ro, rc, rg, rfl, hl, _⟩ := HW3.out.read t.size hrow
                  rw [hnow.out, her2.out]
                  exact ⟨⟨ro, rc, rg, rfl, hl⟩, h2, t⟩
                clear h3 hs HB2 HWL HW2 HU2 HA2 k22 k42
                go_wp2_with fail
                refine HR3.out.mono ?_
                rintro e w4 ⟨⟨so, sc, sg, rfl, hnl⟩, h4, t4⟩
                have HB4 : Hid (Free F4 w4 wr.heap.size ∧ w4.heap[wr.heap.size]? = some (.cells #[.int .i64 3, .int .i64 x.n, .string x.name, .string x.tgt, .slice x.bo x.b.length x.bcap, .slice x.ko x.keep.length x.kcap] 32 (0, 0))) := ⟨HB3.out.1.touch t4, (t4.block _ HB3.out.1.lt id).trans HB3.out.2⟩
                have HWL4 : Hid (LF F4 w4 rg ro was ∧ LF F4 w4 sg so now) := ⟨HWL3.out.touch t4, hnl⟩
                have HW4 : Hid (Live w2 w4 d F4 (mAppend s x.nm x.b)) := h4
                obtain ⟨U2, hU2⟩ : ∃ U2, Hid (U2 = (mAppend s x.nm x.b).used) := ⟨_, rfl⟩
                have k24 : w4.cell? ⟨wr.heap.size, 2, none⟩ = some (.string x.name) := by rw [cell_of_block HB4.out.2]; rfl
                have k44 : w4.cell? ⟨wr.heap.size, 4, none⟩ = some (.slice x.bo x.b.length x.bcap) := by rw [cell_of_block HB4.out.2]; rfl
                have HX2 := lUsed HW4.out
                have HU4 : Hid (Calls Try.prog 40 #[dp d] w4 fun e w' => e = .returned (.int .i64 (U2 : Int)) ∧ w' = w4) := by rw [← hU2.out] at HX2; exact HX2
                have hu2 : U2 ≤ c := by rw [hU2.out]; exact HN1.out.used
                have HEnd : Hid (∃ s F, Live w2 w4 d F s ∧ RI c (k + 1) s) := ⟨_, _, HW4.out, HN1.out⟩
                have hzn : (x.nm).length = x.name.size := by unfold StepV.nm; rw [Array.length_toList]; rfl
                have hEn : E ≠ 0 := fun h0 => by
                  have := HIc.out.1 h0
                  unfold isNm at this
                  rw [hzn] at this
                  simp at this
                  omega
                have hE1 : (E == 0) = false := by simpa using hEn
                have hms : mAppend s x.nm x.b = s := by unfold mAppend; rw [if_neg (by rw [← hE.out]; exact hEn)]
                have hnw : now = was := by rw [hnow.out, hwas.out, hms]
                have hee : er2 = er := by rw [her2.out, her.out, hms]
                have hUU : U2 = U := by rw [hU2.out, hms]; exact HUs.out
                have HBy : Hid (Calls Try.prog 27 #[.slice ro was.length rc, .slice so now.length sc] w4 fun e w' => e = .returned (.bool true) ∧ w' = w4) := by
                  have := help_bytes rg sg ro so was now was.length now.length rc sc rfl rfl w4 HWL4.out.1.lies HWL4.out.2.lies
                  rw [show (was == now) = true from by rw [hnw]; simp] at this
                  exact this
                clear h4 t4 hnl HB3 HWL3 HW3 HR3 k23 k43 hnow hwas her her2 HX2 hU2 hE HIc hzn HRS hms HWL4
                subst hnw hee hUU
                go_wp2_with fail
                refine HBy.out.mono ?_
                rintro e w5 ⟨rfl, hw5⟩
                rw [hw5]; clear hw5
                go_wp2_with fail
                refine HU4.out.mono ?_
                rintro e w5 ⟨rfl, hw⟩
                rw [hw]; clear hw
                go_wp2_with fail
                refine HU4.out.mono ?_
                rintro e w5 ⟨rfl, hw⟩
                rw [hw]; clear hw
                go_wp2_with fail
                go_roundw
                case rel => exact ⟨k + 1, by go_num, by omega, HEnd.out⟩
                case measure => simp [intOf]; omega
            · rw [hw] at a0
              have HRS : Hid (rS s x = mAppend s x.nm x.b) := by unfold rS StepV.app; simp [hw, Hid]
              rw [HRS.out] at HN1
              obtain ⟨was, hwas⟩ : ∃ was, Hid (was = mRead s x.nm) := ⟨_, rfl⟩
              obtain ⟨er, her⟩ : ∃ er, Hid (er = s.err x.nm) := ⟨_, rfl⟩
              obtain ⟨E, hE⟩ : ∃ E, Hid (E = appE s x.nm x.b) := ⟨_, rfl⟩
              rw [← hE.out] at HIc
              have HIc : Hid (E = 0 ↔ (isNm x.nm = true ∧ U + x.b.length ≤ c)) := HIc
              have HR : Hid (Calls Try.prog 25 #[dp d, .string x.name] (wr.alloc (.cells #[.int .i64 x.what, .int .i64 x.n, .string x.name, .string x.tgt, .slice x.bo x.b.length x.bcap, .slice x.ko x.keep.length x.kcap] 32)) fun e w' => (∃ ro rc rg, e = .returned (.tuple #[.slice ro was.length rc, .int .i64 er]) ∧ LF F w' rg ro was) ∧ Live w2 w' d F s ∧ Touch (fun _ => False) (wr.alloc (.cells #[.int .i64 x.what, .int .i64 x.n, .string x.name, .string x.tgt, .slice x.bo x.b.length x.bcap, .slice x.ko x.keep.length x.kcap] 32)) w') := by
                refine (lRead HW1.out hsl x.name (by omega)).mono ?_
                rintro e w' ⟨⟨v, rfl, hrow⟩, h2, t⟩
                obtain ⟨ro, rc, rg, rfl, hl, _⟩ := HW1.out.read t.size hrow
                rw [hwas.out, her.out]
                exact ⟨⟨ro, rc, rg, rfl, hl⟩, h2, t⟩
              rw [hw] at HR HB1
              go_wp2_with fail
              refine HR.out.mono ?_
              rintro e w3a ⟨⟨ro, rc, rg, rfl, hwl⟩, h2, t2⟩
              have HB2 : Hid (Free F w3a wr.heap.size ∧ w3a.heap[wr.heap.size]? = some (.cells #[.int .i64 3, .int .i64 x.n, .string x.name, .string x.tgt, .slice x.bo x.b.length x.bcap, .slice x.ko x.keep.length x.kcap] 32 (0, 0))) := ⟨HB1.out.1.touch t2, (t2.block _ HB1.out.1.lt id).trans HB1.out.2⟩
              have HWL : Hid (LF F w3a rg ro was) := hwl
              have HW2 : Hid (Live w2 w3a d F s) := h2
              have k22 : w3a.cell? ⟨wr.heap.size, 2, none⟩ = some (.string x.name) := by rw [cell_of_block HB2.out.2]; rfl
              have k42 : w3a.cell? ⟨wr.heap.size, 4, none⟩ = some (.slice x.bo x.b.length x.bcap) := by rw [cell_of_block HB2.out.2]; rfl
              have HX2 := lUsed HW2.out
              have HU2 : Hid (Calls Try.prog 40 #[dp d] w3a fun e w' => e = .returned (.int .i64 (U : Int)) ∧ w' = w3a) := by rw [HUs.out] at HX2; exact HX2
              have HA2 : Hid (Calls Try.prog 14 #[dp d, .string x.name, .slice x.bo x.b.length x.bcap] w3a fun e w' => e = .returned (.int .i64 E) ∧ LPost w2 d F (mAppend s x.nm x.b) w3a w') := by
                rw [hE.out]
                exact lAppend HW2.out hsl x.name (by omega) x.bg x.bo x.b x.b.length x.bcap rfl HX.out.bno (HX.out.bl.keep fun e => (HW2.out.since.block x.bg (HX.out.bl.lt e) id)) HX.out.blen
              clear HX2 hwl h2 t2 HR HW1 HB1
              go_wp2_with fail
              refine HU2.out.mono ?_
              rintro e w3b ⟨rfl, hw2⟩
              rw [hw2]; clear hw2
              go_wp2_with fail
              refine HA2.out.mono ?_
              rintro e w3c ⟨rfl, F4, h3, hs⟩
              have HB3 : Hid (Free F4 w3c wr.heap.size ∧ w3c.heap[wr.heap.size]? = some (.cells #[.int .i64 3, .int .i64 x.n, .string x.name, .string x.tgt, .slice x.bo x.b.length x.bcap, .slice x.ko x.keep.length x.kcap] 32 (0, 0))) := ⟨HB2.out.1.step hs, (HB2.out.1.same hs).trans HB2.out.2⟩
              have HWL3 : Hid (LF F4 w3c rg ro was) := HWL.out.step hs
              have HW3 : Hid (Live w2 w3c d F4 (mAppend s x.nm x.b)) := h3
              obtain ⟨now, hnow⟩ : ∃ now, Hid (now = mRead (mAppend s x.nm x.b) x.nm) := ⟨_, rfl⟩
              obtain ⟨er2, her2⟩ : ∃ er2, Hid (er2 = (mAppend s x.nm x.b).err x.nm) := ⟨_, rfl⟩
              have hsl2 : (mAppend s x.nm x.b).fs.length ≤ 1073741823 := by have := HN1.out.len; omega
              have k23 : w3c.cell? ⟨wr.heap.size, 2, none⟩ = some (.string x.name) := by rw [cell_of_block HB3.out.2]; rfl
              have k43 : w3c.cell? ⟨wr.heap.size, 4, none⟩ = some (.slice x.bo x.b.length x.bcap) := by rw [cell_of_block HB3.out.2]; rfl
              have HR3 : Hid (Calls Try.prog 25 #[dp d, .string x.name] w3c fun e w' => (∃ ro rc rg, e = .returned (.tuple #[.slice ro now.length rc, .int .i64 er2]) ∧ LF F4 w' rg ro now) ∧ Live w2 w' d F4 (mAppend s x.nm x.b) ∧ Touch (fun _ => False) w3c w') := by
                refine (lRead HW3.out hsl2 x.name (by omega)).mono ?_
                rintro e w' ⟨⟨v, rfl, hrow⟩, h2, t⟩
                obtain ⟨ro, rc, rg, rfl, hl, _⟩ := HW3.out.read t.size hrow
                rw [hnow.out, her2.out]
                exact ⟨⟨ro, rc, rg, rfl, hl⟩, h2, t⟩
              clear h3 hs HB2 HWL HW2 HU2 HA2 k22 k42
              go_wp2_with fail
              refine HR3.out.mono ?_
              rintro e w4 ⟨⟨so, sc, sg, rfl, hnl⟩, h4, t4⟩
              have HB4 : Hid (Free F4 w4 wr.heap.size ∧ w4.heap[wr.heap.size]? = some (.cells #[.int .i64 3, .int .i64 x.n, .string x.name, .string x.tgt, .slice x.bo x.b.length x.bcap, .slice x.ko x.keep.length x.kcap] 32 (0, 0))) := ⟨HB3.out.1.touch t4, (t4.block _ HB3.out.1.lt id).trans HB3.out.2⟩
              have HWL4 : Hid (LF F4 w4 rg ro was ∧ LF F4 w4 sg so now) := ⟨HWL3.out.touch t4, hnl⟩
              have HW4 : Hid (Live w2 w4 d F4 (mAppend s x.nm x.b)) := h4
              obtain ⟨U2, hU2⟩ : ∃ U2, Hid (U2 = (mAppend s x.nm x.b).used) := ⟨_, rfl⟩
              have k24 : w4.cell? ⟨wr.heap.size, 2, none⟩ = some (.string x.name) := by rw [cell_of_block HB4.out.2]; rfl
              have k44 : w4.cell? ⟨wr.heap.size, 4, none⟩ = some (.slice x.bo x.b.length x.bcap) := by rw [cell_of_block HB4.out.2]; rfl
              have HX2 := lUsed HW4.out
              have HU4 : Hid (Calls Try.prog 40 #[dp d] w4 fun e w' => e = .returned (.int .i64 (U2 : Int)) ∧ w' = w4) := by rw [← hU2.out] at HX2; exact HX2
              have hu2 : U2 ≤ c := by rw [hU2.out]; exact HN1.out.used
              have HEnd : Hid (∃ s F, Live w2 w4 d F s ∧ RI c (k + 1) s) := ⟨_, _, HW4.out, HN1.out⟩
              have hzn : (x.nm).length = x.name.size := by unfold StepV.nm; rw [Array.length_toList]; rfl
              have hEn : E ≠ 0 := fun h0 => by
                have := HIc.out.1 h0
                unfold isNm at this
                rw [hzn] at this
                simp at this
                omega
              have hE1 : (E == 0) = false := by simpa using hEn
              have hms : mAppend s x.nm x.b = s := by unfold mAppend; rw [if_neg (by rw [← hE.out]; exact hEn)]
              have hnw : now = was := by rw [hnow.out, hwas.out, hms]
              have hee : er2 = er := by rw [her2.out, her.out, hms]
              have hUU : U2 = U := by rw [hU2.out, hms]; exact HUs.out
              have HBy : Hid (Calls Try.prog 27 #[.slice ro was.length rc, .slice so now.length sc] w4 fun e w' => e = .returned (.bool true) ∧ w' = w4) := by
                have := help_bytes rg sg ro so was now was.length now.length rc sc rfl rfl w4 HWL4.out.1.lies HWL4.out.2.lies
                rw [show (was == now) = true from by rw [hnw]; simp] at this
                exact this
              clear h4 t4 hnl HB3 HWL3 HW3 HR3 k23 k43 hnow hwas her her2 HX2 hU2 hE HIc hzn HRS hms HWL4
              subst hnw hee hUU
              go_wp2_with fail
              refine HBy.out.mono ?_
              rintro e w5 ⟨rfl, hw5⟩
              rw [hw5]; clear hw5
              go_wp2_with fail
              refine HU4.out.mono ?_
              rintro e w5 ⟨rfl, hw⟩
              rw [hw]; clear hw
              go_wp2_with fail
              refine HU4.out.mono ?_
              rintro e w5 ⟨rfl, hw⟩
              rw [hw]; clear hw
              go_wp2_with fail
              go_roundw
              case rel => exact ⟨k + 1, by go_num, by omega, HEnd.out⟩
              case measure => simp [intOf]; omega
          · have g1 : decide ((U : Int) + (x.b.length : Int) ≤ (c : Int)) = false := by simp; omega
            rw [hw] at a0
            have HRS : Hid (rS s x = mAppend s x.nm x.b) := by unfold rS StepV.app; simp [hw, Hid]
            rw [HRS.out] at HN1
            obtain ⟨was, hwas⟩ : ∃ was, Hid (was = mRead s x.nm) := ⟨_, rfl⟩
            obtain ⟨er, her⟩ : ∃ er, Hid (er = s.err x.nm) := ⟨_, rfl⟩
            obtain ⟨E, hE⟩ : ∃ E, Hid (E = appE s x.nm x.b) := ⟨_, rfl⟩
            rw [← hE.out] at HIc
            have HIc : Hid (E = 0 ↔ (isNm x.nm = true ∧ U + x.b.length ≤ c)) := HIc
            have HR : Hid (Calls Try.prog 25 #[dp d, .string x.name] (wr.alloc (.cells #[.int .i64 x.what, .int .i64 x.n, .string x.name, .string x.tgt, .slice x.bo x.b.length x.bcap, .slice x.ko x.keep.length x.kcap] 32)) fun e w' => (∃ ro rc rg, e = .returned (.tuple #[.slice ro was.length rc, .int .i64 er]) ∧ LF F w' rg ro was) ∧ Live w2 w' d F s ∧ Touch (fun _ => False) (wr.alloc (.cells #[.int .i64 x.what, .int .i64 x.n, .string x.name, .string x.tgt, .slice x.bo x.b.length x.bcap, .slice x.ko x.keep.length x.kcap] 32)) w') := by
              refine (lRead HW1.out hsl x.name (by omega)).mono ?_
              rintro e w' ⟨⟨v, rfl, hrow⟩, h2, t⟩
              obtain ⟨ro, rc, rg, rfl, hl, _⟩ := HW1.out.read t.size hrow
              rw [hwas.out, her.out]
              exact ⟨⟨ro, rc, rg, rfl, hl⟩, h2, t⟩
            rw [hw] at HR HB1
            go_wp2_with fail
            refine HR.out.mono ?_
            rintro e w3a ⟨⟨ro, rc, rg, rfl, hwl⟩, h2, t2⟩
            have HB2 : Hid (Free F w3a wr.heap.size ∧ w3a.heap[wr.heap.size]? = some (.cells #[.int .i64 3, .int .i64 x.n, .string x.name, .string x.tgt, .slice x.bo x.b.length x.bcap, .slice x.ko x.keep.length x.kcap] 32 (0, 0))) := ⟨HB1.out.1.touch t2, (t2.block _ HB1.out.1.lt id).trans HB1.out.2⟩
            have HWL : Hid (LF F w3a rg ro was) := hwl
            have HW2 : Hid (Live w2 w3a d F s) := h2
            have k22 : w3a.cell? ⟨wr.heap.size, 2, none⟩ = some (.string x.name) := by rw [cell_of_block HB2.out.2]; rfl
            have k42 : w3a.cell? ⟨wr.heap.size, 4, none⟩ = some (.slice x.bo x.b.length x.bcap) := by rw [cell_of_block HB2.out.2]; rfl
            have HX2 := lUsed HW2.out
            have HU2 : Hid (Calls Try.prog 40 #[dp d] w3a fun e w' => e = .returned (.int .i64 (U : Int)) ∧ w' = w3a) := by rw [HUs.out] at HX2; exact HX2
            have HA2 : Hid (Calls Try.prog 14 #[dp d, .string x.name, .slice x.bo x.b.length x.bcap] w3a fun e w' => e = .returned (.int .i64 E) ∧ LPost w2 d F (mAppend s x.nm x.b) w3a w') := by
              rw [hE.out]
              exact lAppend HW2.out hsl x.name (by omega) x.bg x.bo x.b x.b.length x.bcap rfl HX.out.bno (HX.out.bl.keep fun e => (HW2.out.since.block x.bg (HX.out.bl.lt e) id)) HX.out.blen
            clear HX2 hwl h2 t2 HR HW1 HB1
            go_wp2_with fail
            refine HU2.out.mono ?_
            rintro e w3b ⟨rfl, hw2⟩
            rw [hw2]; clear hw2
            go_wp2_with fail
            refine HA2.out.mono ?_
            rintro e w3c ⟨rfl, F4, h3, hs⟩
            have HB3 : Hid (Free F4 w3c wr.heap.size ∧ w3c.heap[wr.heap.size]? = some (.cells #[.int .i64 3, .int .i64 x.n, .string x.name, .string x.tgt, .slice x.bo x.b.length x.bcap, .slice x.ko x.keep.length x.kcap] 32 (0, 0))) := ⟨HB2.out.1.step hs, (HB2.out.1.same hs).trans HB2.out.2⟩
            have HWL3 : Hid (LF F4 w3c rg ro was) := HWL.out.step hs
            have HW3 : Hid (Live w2 w3c d F4 (mAppend s x.nm x.b)) := h3
            obtain ⟨now, hnow⟩ : ∃ now, Hid (now = mRead (mAppend s x.nm x.b) x.nm) := ⟨_, rfl⟩
            obtain ⟨er2, her2⟩ : ∃ er2, Hid (er2 = (mAppend s x.nm x.b).err x.nm) := ⟨_, rfl⟩
            have hsl2 : (mAppend s x.nm x.b).fs.length ≤ 1073741823 := by have := HN1.out.len; omega
            have k23 : w3c.cell? ⟨wr.heap.size, 2, none⟩ = some (.string x.name) := by rw [cell_of_block HB3.out.2]; rfl
            have k43 : w3c.cell? ⟨wr.heap.size, 4, none⟩ = some (.slice x.bo x.b.length x.bcap) := by rw [cell_of_block HB3.out.2]; rfl
            have HR3 : Hid (Calls Try.prog 25 #[dp d, .string x.name] w3c fun e w' => (∃ ro rc rg, e = .returned (.tuple #[.slice ro now.length rc, .int .i64 er2]) ∧ LF F4 w' rg ro now) ∧ Live w2 w' d F4 (mAppend s x.nm x.b) ∧ Touch (fun _ => False) w3c w') := by
              refine (lRead HW3.out hsl2 x.name (by omega)).mono ?_
              rintro e w' ⟨⟨v, rfl, hrow⟩, h2, t⟩
              obtain ⟨ro, rc, rg, rfl, hl, _⟩ := HW3.out.read t.size hrow
              rw [hnow.out, her2.out]
              exact ⟨⟨ro, rc, rg, rfl, hl⟩, h2, t⟩
            clear h3 hs HB2 HWL HW2 HU2 HA2 k22 k42
            go_wp2_with fail
            refine HR3.out.mono ?_
            rintro e w4 ⟨⟨so, sc, sg, rfl, hnl⟩, h4, t4⟩
            have HB4 : Hid (Free F4 w4 wr.heap.size ∧ w4.heap[wr.heap.size]? = some (.cells #[.int .i64 3, .int .i64 x.n, .string x.name, .string x.tgt, .slice x.bo x.b.length x.bcap, .slice x.ko x.keep.length x.kcap] 32 (0, 0))) := ⟨HB3.out.1.touch t4, (t4.block _ HB3.out.1.lt id).trans HB3.out.2⟩
            have HWL4 : Hid (LF F4 w4 rg ro was ∧ LF F4 w4 sg so now) := ⟨HWL3.out.touch t4, hnl⟩
            have HW4 : Hid (Live w2 w4 d F4 (mAppend s x.nm x.b)) := h4
            obtain ⟨U2, hU2⟩ : ∃ U2, Hid (U2 = (mAppend s x.nm x.b).used) := ⟨_, rfl⟩
            have k24 : w4.cell? ⟨wr.heap.size, 2, none⟩ = some (.string x.name) := by rw [cell_of_block HB4.out.2]; rfl
            have k44 : w4.cell? ⟨wr.heap.size, 4, none⟩ = some (.slice x.bo x.b.length x.bcap) := by rw [cell_of_block HB4.out.2]; rfl
            have HX2 := lUsed HW4.out
            have HU4 : Hid (Calls Try.prog 40 #[dp d] w4 fun e w' => e = .returned (.int .i64 (U2 : Int)) ∧ w' = w4) := by rw [← hU2.out] at HX2; exact HX2
            have hu2 : U2 ≤ c := by rw [hU2.out]; exact HN1.out.used
            have HEnd : Hid (∃ s F, Live w2 w4 d F s ∧ RI c (k + 1) s) := ⟨_, _, HW4.out, HN1.out⟩
            have hzn : (x.nm).length = x.name.size := by unfold StepV.nm; rw [Array.length_toList]; rfl
            have hEn : E ≠ 0 := fun h0 => by
              have := HIc.out.1 h0
              unfold isNm at this
              rw [hzn] at this
              simp at this
              omega
            have hE1 : (E == 0) = false := by simpa using hEn
            have hms : mAppend s x.nm x.b = s := by unfold mAppend; rw [if_neg (by rw [← hE.out]; exact hEn)]
            have hnw : now = was := by rw [hnow.out, hwas.out, hms]
            have hee : er2 = er := by rw [her2.out, her.out, hms]
            have hUU : U2 = U := by rw [hU2.out, hms]; exact HUs.out
            have HBy : Hid (Calls Try.prog 27 #[.slice ro was.length rc, .slice so now.length sc] w4 fun e w' => e = .returned (.bool true) ∧ w' = w4) := by
              have := help_bytes rg sg ro so was now was.length now.length rc sc rfl rfl w4 HWL4.out.1.lies HWL4.out.2.lies
              rw [show (was == now) = true from by rw [hnw]; simp] at this
              exact this
            clear h4 t4 hnl HB3 HWL3 HW3 HR3 k23 k43 hnow hwas her her2 HX2 hU2 hE HIc hzn HRS hms HWL4
            subst hnw hee hUU
            go_wp2_with fail
            refine HBy.out.mono ?_
            rintro e w5 ⟨rfl, hw5⟩
            rw [hw5]; clear hw5
            go_wp2_with fail
            refine HU4.out.mono ?_
            rintro e w5 ⟨rfl, hw⟩
            rw [hw]; clear hw
            go_wp2_with fail
            refine HU4.out.mono ?_
            rintro e w5 ⟨rfl, hw⟩
            rw [hw]; clear hw
            go_wp2_with fail
            go_roundw
            case rel => exact ⟨k + 1, by go_num, by omega, HEnd.out⟩
            case measure => simp [intOf]; omega
        have hw3 : (x.what == 3) = false := by simpa using hw
        have hv3 : ¬ x.what = 3 := hw
        clear hw
        by_cases hw : x.what = 6
        · have HRS : Hid (rS s x = mTrunc s x.nm x.n) := by unfold rS StepV.app; simp [hw, Hid]
          rw [HRS.out] at HN1
          have HC : Hid (Calls Try.prog 21 #[dp d, .string x.name, .int .i64 x.n] (wr.alloc (.cells #[.int .i64 x.what, .int .i64 x.n, .string x.name, .string x.tgt, .slice x.bo x.b.length x.bcap, .slice x.ko x.keep.length x.kcap] 32)) fun e w' => e = .returned (.int .i64 (s.err x.nm)) ∧ LPost w2 d F (mTrunc s x.nm x.n) (wr.alloc (.cells #[.int .i64 x.what, .int .i64 x.n, .string x.name, .string x.tgt, .slice x.bo x.b.length x.bcap, .slice x.ko x.keep.length x.kcap] 32)) w') := lTrunc HW1.out hsl x.name (by omega) x.n HX.out.n
          rw [hw] at a0 HC
          go_wp2_with fail
          refine HC.out.mono ?_
          rintro e w4 ⟨rfl, F4, h4, hs⟩
          have HW4 : Hid (Live w2 w4 d F4 (mTrunc s x.nm x.n)) := h4
          obtain ⟨U2, hU2⟩ : ∃ U2, Hid (U2 = (mTrunc s x.nm x.n).used) := ⟨_, rfl⟩
          have HX2 := lUsed HW4.out
          have HU4 : Hid (Calls Try.prog 40 #[dp d] w4 fun e w' => e = .returned (.int .i64 (U2 : Int)) ∧ w' = w4) := by rw [← hU2.out] at HX2; exact HX2
          have hu2 : U2 ≤ c := by rw [hU2.out]; exact HN1.out.used
          have HEnd : Hid (∃ s F, Live w2 w4 d F s ∧ RI c (k + 1) s) := ⟨_, _, HW4.out, HN1.out⟩
          clear h4 hs HX2 hU2 HC HRS
          go_wp2_with fail
          refine HU4.out.mono ?_
          rintro e w5 ⟨rfl, hw⟩
          rw [hw]; clear hw
          go_wp2_with fail
          go_roundw
          case rel => exact ⟨k + 1, by go_num, by omega, HEnd.out⟩
          case measure => simp [intOf]; omega
        have hw6 : (x.what == 6) = false := by simpa using hw
        have hv6 : ¬ x.what = 6 := hw
        clear hw
        by_cases hw : x.what = 7
        · have HRS : Hid (rS s x = mDelete s x.nm) := by unfold rS StepV.app; simp [hw, Hid]
          rw [HRS.out] at HN1
          have HC : Hid (Calls Try.prog 23 #[dp d, .string x.name] (wr.alloc (.cells #[.int .i64 x.what, .int .i64 x.n, .string x.name, .string x.tgt, .slice x.bo x.b.length x.bcap, .slice x.ko x.keep.length x.kcap] 32)) fun e w' => e = .returned (.int .i64 (s.err x.nm)) ∧ LPost w2 d F (mDelete s x.nm) (wr.alloc (.cells #[.int .i64 x.what, .int .i64 x.n, .string x.name, .string x.tgt, .slice x.bo x.b.length x.bcap, .slice x.ko x.keep.length x.kcap] 32)) w') := lDel HW1.out hsl x.name (by omega)
          rw [hw] at a0 HC
          go_wp2_with fail
          refine HC.out.mono ?_
          rintro e w4 ⟨rfl, F4, h4, hs⟩
          have HW4 : Hid (Live w2 w4 d F4 (mDelete s x.nm)) := h4
          obtain ⟨U2, hU2⟩ : ∃ U2, Hid (U2 = (mDelete s x.nm).used) := ⟨_, rfl⟩
          have HX2 := lUsed HW4.out
          have HU4 : Hid (Calls Try.prog 40 #[dp d] w4 fun e w' => e = .returned (.int .i64 (U2 : Int)) ∧ w' = w4) := by rw [← hU2.out] at HX2; exact HX2
          have hu2 : U2 ≤ c := by rw [hU2.out]; exact HN1.out.used
          have HEnd : Hid (∃ s F, Live w2 w4 d F s ∧ RI c (k + 1) s) := ⟨_, _, HW4.out, HN1.out⟩
          clear h4 hs HX2 hU2 HC HRS
          go_wp2_with fail
          refine HU4.out.mono ?_
          rintro e w5 ⟨rfl, hw⟩
          rw [hw]; clear hw
          go_wp2_with fail
          go_roundw
          case rel => exact ⟨k + 1, by go_num, by omega, HEnd.out⟩
          case measure => simp [intOf]; omega
        have hw7 : (x.what == 7) = false := by simpa using hw
        have hv7 : ¬ x.what = 7 := hw
        clear hw
        have HRS : Hid (rS s x = s) := by unfold rS StepV.app; simp [hv0, hv1, hv2, hv3, hv6, hv7, Hid]
        rw [HRS.out] at HN1
        obtain ⟨w4, hw4⟩ : ∃ w4, w4 = wr.alloc (.cells #[.int .i64 x.what, .int .i64 x.n, .string x.name, .string x.tgt, .slice x.bo x.b.length x.bcap, .slice x.ko x.keep.length x.kcap] 32) := ⟨_, rfl⟩
        have HW4 : Hid (Live w2 w4 d F s) := by rw [hw4]; exact HW1.out
        obtain ⟨U2, hU2⟩ : ∃ U2, Hid (U2 = s.used) := ⟨_, rfl⟩
        have HX2 := lUsed HW4.out
        have HU4 : Hid (Calls Try.prog 40 #[dp d] w4 fun e w' => e = .returned (.int .i64 (U2 : Int)) ∧ w' = w4) := by rw [← hU2.out] at HX2; exact HX2
        have hu2 : U2 ≤ c := by rw [hU2.out]; exact HN1.out.used
        have HEnd : Hid (∃ s F, Live w2 w4 d F s ∧ RI c (k + 1) s) := ⟨_, _, HW4.out, HN1.out⟩
        clear HX2 hU2 HRS hv0 hv1 hv2 hv3 hv6 hv7
        rw [hw4] at HU4 HEnd
        go_wp2_with fail
        refine HU4.out.mono ?_
        rintro e w5 ⟨rfl, hw5⟩
        rw [hw5]; clear hw5
        go_wp2_with fail
        go_roundw
        case rel => exact ⟨k + 1, by go_num, by omega, HEnd.out⟩
        case measure => simp [intOf]; omega
      · have hke : k = l.length := by omega
        have HQ : Hid (Touch (fun _ => False) w wr) := HT2.out.trans hL.since
        clear hL hI
        subst hke
        go_wp2_with fail
        go_ret
        exact ⟨rfl, HQ.out⟩
end Go.Proofs.Ytahikcjgnnmnbaa
