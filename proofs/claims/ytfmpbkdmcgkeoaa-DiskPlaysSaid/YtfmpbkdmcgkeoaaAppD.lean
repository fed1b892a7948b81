/- The contract of disk's Append. -/
import Derived.Test.YtfmpbkdmcgkeoaaPosts
import Derived.Test.YtfmpbkdmcgkeoaaLay2
import Derived.Test.YtfmpbkdmcgkeoaaPart3
import Derived.BigRegion
namespace Go.Proofs.Ytfmpbkdmcgkeoaa
open Go.RowKit Go.Maps
set_option linter.unusedVariables false

/-- Behind the append to the file's bytes, and its store in the file's own cells. -/
structure Mid (w : World) (d m n : Nat) (es : List (Key × Fl)) (room power : Int) (f : Fl) (v' : Value) (bs : List UInt8) (w1 w2 : World) : Prop where
  k0 : w1.cell? ⟨w.heap.size, 0, none⟩ = some f.v
  k1 : w1.cell? ⟨w.heap.size, 1, none⟩ = some (.int .i64 (f.syn : Int))
  z0 : w1.frozen? ⟨w.heap.size, 0, none⟩ = false
  q0 : w2.cell? ⟨w.heap.size, 0, none⟩ = some v'
  q1 : w2.cell? ⟨w.heap.size, 1, none⟩ = some (.int .i64 (f.syn : Int))
  core : Core w2 d m n es room power
  touch : Touch (fun i => i = d ∨ i = m ∨ f.v.ownBlock = some i) w w2
  row : w2.ownsRow 0 5 1 v' bs.length (cellsOf bs)
  new : ∀ i, i < w.heap.size → v'.ownBlock = some i → f.v.ownBlock = some i

theorem append_mid {w : World} {d m n : Nat} {es : List (Key × Fl)} {room power : Int} (hC : Core w d m n es room power) (f : Fl) (hrow : w.ownsRow 0 5 1 f.v f.bs.length (cellsOf f.bs)) {w1 : World} {v' : Value} {bs : List UInt8}
    (gr : Grow f.v v' bs ((w.alloc (.cells #[f.v, .int .i64 (f.syn : Int)] 66)).drew) w1) : Mid w d m n es room power f v' bs w1 (w1.setCell ⟨w.heap.size, 0, none⟩ v') := by
  have hrl : ∀ i, f.v.ownBlock = some i → i < w.heap.size := fun i hi => by obtain ⟨c, hc⟩ := row_lt hrow hi; exact lt_of_heap hc
  have hB0 : ((w.alloc (.cells #[f.v, .int .i64 (f.syn : Int)] 66)).drew).heap[w.heap.size]? = some (.cells #[f.v, .int .i64 (f.syn : Int)] 66 (0, 0)) := heap_alloc_new _ _
  have hB1 := (gr.touch.block w.heap.size (lt_of_heap hB0) (fun h => absurd (hrl _ h) (Nat.lt_irrefl _))).trans hB0
  have hB2 : (w1.setCell ⟨w.heap.size, 0, none⟩ v').heap[w.heap.size]? = some (.cells #[v', .int .i64 (f.syn : Int)] 66 (0, 0)) := by rw [heap_setCell_same _ _ _ _ hB1]; rfl
  have t0 : Touch (fun i => i = d ∨ i = m ∨ f.v.ownBlock = some i) w ((w.alloc (.cells #[f.v, .int .i64 (f.syn : Int)] 66)).drew) := ((Touch.refl _ w).alloc _).drew
  have t1 : Touch (fun i => i = d ∨ i = m ∨ f.v.ownBlock = some i) w w1 := t0.trans (gr.touch.mono fun _ _ h => .inr (.inr h))
  have hC1 : Core w1 d m n es room power := (hC.alloc _).drew.touch gr.touch (fun h => (hC.row_ne hrow h).1 rfl) (fun h => (hC.row_ne hrow h).2 rfl)
  have tS : Touch (fun i => i = w.heap.size) w1 (w1.setCell ⟨w.heap.size, 0, none⟩ v') := (Touch.refl (fun i => i = w.heap.size) w1).setCell _ _ fun _ => rfl
  refine ⟨by rw [cell_of_block hB1]; rfl, by rw [cell_of_block hB1]; rfl, free_of_block hB1, by rw [cell_of_block hB2]; rfl, by rw [cell_of_block hB2]; rfl, ?_, ?_, ?_, ?_⟩
  · exact hC1.touch tS (Nat.ne_of_lt hC.lt) (Nat.ne_of_lt hC.ltm)
  · exact t1.setCell _ _ fun h => absurd h (Nat.lt_irrefl _)
  · refine row_touch gr.is tS fun i hi e => ?_
    obtain ⟨c, hc⟩ := row_lt gr.is hi
    rw [e, hB1] at hc
    simp at hc
  · intro i hi hv
    exact gr.new i (by show i < ((w.alloc (.cells #[f.v, .int .i64 (f.syn : Int)] 66))).heap.size; simp; omega) hv

set_option maxRecDepth 100000 in
set_option maxHeartbeats 1600000 in
theorem append_any {w : World} {d : Nat} {F : Nat → Prop} {s : St} (hD : Disk w d F s) (hn : s.fs.length ≤ 1073741823) (k : ByteArray) (hk : k.size ≤ 281474976710656) (g : Nat) (ao : Option Addr) (b : List UInt8) (nb cap : Nat) (hnb : nb = b.length) (hno : ao = none → cap = 0) (hL : Lies w g ao b) (hb : b.length ≤ 140737488355328) :
    Calls Try.prog 9 #[.pointer (some ⟨d, 0, none⟩), .string k, .slice ao nb cap] w fun e w' => e = .returned (.int .i64 (appE s k.data.toList b)) ∧ DPost d F (mAppend s k.data.toList b) w w' := by
  subst hnb
  obtain ⟨m, es, hC, hR, hfs, hF, hFl⟩ := id hD
  have hn2 : es.length ≤ 1073741823 := by rw [hfs, length_amap] at hn; exact hn
  have hkm : k.size ≤ maxLen := by unfold maxLen; omega
  have hat : s.at k.data.toList = (getF k.data.toList es).abs := at_of hfs _
  have hus : s.used = used es := used_of hfs
  have hul := hC.used_le
  have HD : Hid (Calls Try.prog 34 #[.pointer (some ⟨d, 0, none⟩)] w fun e w' => e = .returned (.bool (decide (s.power = 0))) ∧ w' = w) := dead_any hC
  have HN : Hid (Calls Try.prog 35 #[.string k] w fun e w' => e = .returned (.bool (isNm k.data.toList)) ∧ w' = w) := isName_any k w hkm
  have HS0 : Hid (appE s k.data.toList b ≠ 0 → ∀ w1, Touch (fun _ => False) w w1 → DPost d F (mAppend s k.data.toList b) w w1) := by
    intro h0 w1 t
    unfold mAppend
    rw [if_neg h0]
    exact DPost.same hD t
  by_cases e1 : s.power = 0
  · have hE : appE s k.data.toList b = 43 := by unfold appE; rw [if_pos e1]
    have HQ : Hid (DPost d F (mAppend s k.data.toList b) w w) := HS0.out (by rw [hE]; decide) w (Touch.refl _ _)
    rw [hE]
    rw [decide_eq_true e1] at HD
    clear hat hus hul hC hR hF hFl hD hfs e1 hE HS0 HN hL hno
    generalize mAppend s k.data.toList b = S' at *
    go_enter Try.func9, Try.ntmps9
    go_wp2_with fail
    refine HD.out.mono ?_
    rintro e w1 ⟨rfl, hw⟩
    rw [hw]; clear hw
    go_wp2_with fail
    go_ret
    exact ⟨rfl, HQ.out⟩
  rw [decide_eq_false e1] at HD
  cases e2 : isNm k.data.toList with
  | false =>
    have hE : appE s k.data.toList b = 41 := by unfold appE; rw [if_neg e1, if_pos e2]
    have HQ : Hid (DPost d F (mAppend s k.data.toList b) w w) := HS0.out (by rw [hE]; decide) w (Touch.refl _ _)
    rw [hE]
    rw [e2] at HN
    clear hat hus hul hC hR hF hFl hD hfs e1 e2 hE HS0 hL hno
    generalize mAppend s k.data.toList b = S' at *
    go_enter Try.func9, Try.ntmps9
    go_wp2_with fail
    refine HD.out.mono ?_
    rintro e w1 ⟨rfl, hw⟩
    rw [hw]; clear hw
    go_wp2_with fail
    refine HN.out.mono ?_
    rintro e w1 ⟨rfl, hw⟩
    rw [hw]; clear hw
    go_wp2_with fail
    go_ret
    exact ⟨rfl, HQ.out⟩
  | true =>
    rw [e2] at HN
    have hE0 : appE s k.data.toList b = if 4194304 < (getF k.data.toList es).bs.length + b.length ∨ s.room < (used es : Int) + (b.length : Int) then 42 else 0 := by
      unfold appE; rw [if_neg e1, if_neg (by rw [e2]; decide), hat, hus]; rfl
    have hG := hC.get k.data.toList
    have L := hC.look k hkm
    have hrow := hR.get k.data.toList
    have c0 := hC.c0
    have hA : Core ((w.alloc (.cells #[(getF k.data.toList es).v, .int .i64 ((getF k.data.toList es).syn : Int)] 66)).drew) d m es.length es s.room s.power := (hC.alloc _).drew
    have c1 := hA.c1
    have c2 := hA.c2
    have r0 := hC.room0
    have r1 := hC.room1
    by_cases hX : 4194304 < (getF k.data.toList es).bs.length + b.length ∨ s.room < (used es : Int) + (b.length : Int)
    · rw [if_pos hX] at hE0
      have HQ : Hid (∀ w1, Touch (fun _ => False) w w1 → DPost d F (mAppend s k.data.toList b) w w1) := HS0.out (by rw [hE0]; decide)
      rw [hE0]
      obtain ⟨⟨ao2, cap2, hv⟩, hs1, hs2⟩ := hG
      clear hat hus hC hR hF hFl hD hfs e1 e2 hE0 HS0 hL hno hA hrow
      generalize getF k.data.toList es = f at *
      obtain ⟨v, bs, syn⟩ := f
      simp only at hv hs1 hs2 hX c1 c2
      subst hv
      simp only [Fl.val] at L
      generalize mAppend s k.data.toList b = S' at *
      by_cases hX1 : 4194304 < bs.length + b.length
      · clear hX
        have hX2 : (4194304 : Int) < (bs.length : Int) + (b.length : Int) := by omega
        go_enter Try.func9, Try.ntmps9
        go_wp2_with fail
        refine HD.out.mono ?_
        rintro e w1 ⟨rfl, hw⟩
        rw [hw]; clear hw
        go_wp2_with fail
        refine HN.out.mono ?_
        rintro e w1 ⟨rfl, hw⟩
        rw [hw]; clear hw
        go_wp2_with fail
        go_region
        all_goals go_wp2_with fail
        all_goals go_ret
        all_goals exact ⟨rfl, HQ.out _ ((Touch.refl _ w).alloc _).drew⟩
      · have hX3 : s.room < (used es : Int) + (b.length : Int) := by omega
        have hX2 : decide ((4194304 : Int) < (bs.length : Int) + (b.length : Int)) = false := by simp; omega
        have hX4 : decide (s.room < (used es : Int) + (b.length : Int)) = true := by simp; omega
        clear hX hX3
        go_enter Try.func9, Try.ntmps9
        go_wp2_with fail
        refine HD.out.mono ?_
        rintro e w1 ⟨rfl, hw⟩
        rw [hw]; clear hw
        go_wp2_with fail
        refine HN.out.mono ?_
        rintro e w1 ⟨rfl, hw⟩
        rw [hw]; clear hw
        go_wp2_with fail
        go_region
        all_goals go_wp2_with fail
        all_goals go_ret
        all_goals exact ⟨rfl, HQ.out _ ((Touch.refl _ w).alloc _).drew⟩
    · rw [if_neg hX] at hE0
      rw [hE0]
      have hX1 : ¬ 4194304 < (getF k.data.toList es).bs.length + b.length := fun h => hX (.inl h)
      have hX3 : ¬ s.room < (used es : Int) + (b.length : Int) := fun h => hX (.inr h)
      have tW : Touch (fun _ => False) w (w.alloc (.cells #[(getF k.data.toList es).v, .int .i64 ((getF k.data.toList es).syn : Int)] 66)).drew := ((Touch.refl _ w).alloc _).drew
      have HLW : Hid (Lies (w.alloc (.cells #[(getF k.data.toList es).v, .int .i64 ((getF k.data.toList es).syn : Int)] 66)).drew g ao b) := hL.keep fun hne => tW.block g (hL.lt hne) id
      have HRW : Hid ((w.alloc (.cells #[(getF k.data.toList es).v, .int .i64 ((getF k.data.toList es).syn : Int)] 66)).drew.ownsRow 0 5 1 (getF k.data.toList es).v (getF k.data.toList es).bs.length (cellsOf (getF k.data.toList es).bs)) := row_touch hrow tW fun _ _ => id
      have HM : Hid (∀ w1 v', Grow (getF k.data.toList es).v v' ((getF k.data.toList es).bs ++ b) ((w.alloc (.cells #[(getF k.data.toList es).v, .int .i64 ((getF k.data.toList es).syn : Int)] 66)).drew) w1 → Mid w d m es.length es s.room s.power (getF k.data.toList es) v' ((getF k.data.toList es).bs ++ b) w1 (w1.setCell ⟨w.heap.size, 0, none⟩ v')) := fun w1 v' gr => append_mid hC _ hrow gr
      have HLay : Hid (∀ W ao' cap', Core W d m es.length es s.room s.power → Calls Try.prog 36 #[.pointer (some ⟨d, 0, none⟩), .string k, .agg #[.slice ao' ((getF k.data.toList es).bs ++ b).length cap', .int .i64 ((getF k.data.toList es).syn : Int)]] W fun e w' => e = .returned (.tuple #[]) ∧ Core w' d m (es.length + 1) (aput k.data.toList ⟨.slice ao' ((getF k.data.toList es).bs ++ b).length cap', (getF k.data.toList es).bs ++ b, (getF k.data.toList es).syn⟩ es) s.room s.power ∧ Touch (fun i => i = d ∨ i = m) W w') := by
        intro W ao' cap' h
        refine lay_any h k hk (by omega) ⟨.slice ao' ((getF k.data.toList es).bs ++ b).length cap', (getF k.data.toList es).bs ++ b, (getF k.data.toList es).syn⟩ ⟨⟨ao', cap', rfl⟩, ?_, ?_⟩
        · have := hG.2.1; simp only [List.length_append]; omega
        · simp only [List.length_append]; omega
      have HQ : Hid (∀ w1 w2 w3 w4 ao' cap', Mid w d m es.length es s.room s.power (getF k.data.toList es) (.slice ao' ((getF k.data.toList es).bs ++ b).length cap') ((getF k.data.toList es).bs ++ b) w1 w2 → Core w4 d m (es.length + 1) (aput k.data.toList ⟨.slice ao' ((getF k.data.toList es).bs ++ b).length cap', (getF k.data.toList es).bs ++ b, (getF k.data.toList es).syn⟩ es) s.room (spent s.power) → Touch (fun i => i = d ∨ i = m) w2 w3 → Touch (fun i => i = d) w3 w4 → DPost d F (mAppend s k.data.toList b) w w4) := by
        intro w1 w2 w3 w4 ao' cap' hM h4 t3 t4
        have hm : mAppend s k.data.toList b = s.to (aput k.data.toList ((s.at k.data.toList).1 ++ b, (s.at k.data.toList).2) s.fs) := by unfold mAppend; rw [if_pos hE0]
        rw [hm]
        have t24 : Touch (fun i => i = d ∨ i = m) w2 w4 := t3.trans (t4.mono fun _ _ h => .inl h)
        refine laid_same hC hR hF h4 (hM.touch.trans (t24.mono ?_)) ?_ hM.new ?_
        · rintro i _ (h | h)
          · exact .inl h
          · exact .inr (.inl h)
        · exact row_touch hM.row t24 fun i hi hx => by
            obtain ⟨n1, n2⟩ := hM.core.row_ne hM.row hi
            exact hx.elim n1 n2
        · show aput k.data.toList ((s.at k.data.toList).1 ++ b, (s.at k.data.toList).2) s.fs = _
          rw [hat, hfs]; rfl
      clear tW
      have HNO : Hid (ao = none → cap = 0) := hno
      obtain ⟨⟨ao2, cap2, hv⟩, hs1, hs2⟩ := hG
      clear hat hus hR hF hFl hD hfs e1 e2 hE0 HS0 hL hno hA hrow hX
      have HSp : Hid (∀ W es', Core W d m (es.length + 1) es' s.room s.power → Calls Try.prog 37 #[.pointer (some ⟨d, 0, none⟩)] W fun e w' => e = .returned (.tuple #[]) ∧ Core w' d m (es.length + 1) es' s.room (spent s.power) ∧ Touch (fun i => i = d) W w') := fun W es' h => spend_any h
      clear hC
      generalize getF k.data.toList es = f at *
      obtain ⟨v, bs, syn⟩ := f
      simp only at hv hs1 hs2 hX1 c1 c2 HRW HLW HM HLay HQ
      subst hv
      simp only [Fl.val] at L
      generalize mAppend s k.data.toList b = S' at *
      have hX2 : decide ((4194304 : Int) < (bs.length : Int) + (b.length : Int)) = false := by simp; omega
      have hX4 : decide (s.room < (used es : Int) + (b.length : Int)) = false := by simp; omega
      clear hX3
      go_enter Try.func9, Try.ntmps9
      go_wp2_with fail
      refine HD.out.mono ?_
      rintro e w1 ⟨rfl, hw⟩
      rw [hw]; clear hw
      go_wp2_with fail
      refine HN.out.mono ?_
      rintro e w1 ⟨rfl, hw⟩
      rw [hw]; clear hw
      go_wp2_with fail
      go_region
      go_wp2_with (first | (at_builtin; refine wpList_append_bytes _ rfl _ _ rfl _ bs rfl HRW.out g ao b.length cap b rfl rfl HNO.out HLW.out (by omega) ?_))
      intro v' w1 hgr
      obtain ⟨ao', cap', g', hv', _⟩ := lies_of_owned hgr.is
      have hM := HM.out _ _ hgr
      generalize (bs ++ b).length = nl at hv' HLay HQ
      subst hv'
      have k0 := hM.k0
      have k1 := hM.k1
      have z0 := hM.z0
      have q0 := hM.q0
      have q1 := hM.q1
      have HM2 : Hid (Mid w d m es.length es s.room s.power _ _ _ w1 _) := hM
      have HL2 := HLay.out _ ao' cap' hM.core
      have HL3 : Hid (Calls Try.prog _ _ (w1.setCell ⟨w.heap.size, 0, none⟩ (.slice ao' nl cap')) _) := HL2
      clear hgr hM HL2 HLay HM HLW HRW HNO
      go_wp2_with fail
      refine HL3.out.mono ?_
      rintro e w3 ⟨rfl, hC3, hT3⟩
      have H3 := HSp.out w3 _ hC3
      have HT3 : Hid (Touch (fun i => i = d ∨ i = m) (w1.setCell ⟨w.heap.size, 0, none⟩ (.slice ao' nl cap')) w3) := hT3
      have HS3 : Hid (Calls Try.prog _ _ w3 _) := H3
      clear hT3 hC3 H3 HSp HL3 k0 k1 z0 q0 q1
      go_wp2_with fail
      refine HS3.out.mono ?_
      rintro e w4 ⟨rfl, hC4, hT4⟩
      have HZ : Hid (DPost d F S' w w4) := HQ.out _ _ _ _ _ _ HM2.out hC4 HT3.out hT4
      clear hC4 hT4 HS3 HQ HM2 HT3
      go_wp2_with fail
      go_ret
      exact ⟨rfl, HZ.out⟩
end Go.Proofs.Ytfmpbkdmcgkeoaa
