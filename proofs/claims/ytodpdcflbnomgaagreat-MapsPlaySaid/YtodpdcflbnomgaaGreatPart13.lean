/- The contract of ids.Clean. -/
import Derived.Test.YtodpdcflbnomgaaGreatOnlyR
import Derived.Test.YtodpdcflbnomgaaGreatPart12
import Derived.Deep.RegionHeld3
import Derived.Deep.DeepCutAuto
import Derived.Deep.LoopGhost
import Derived.Test.YtodpdcflbnomgaaGreatMpN
namespace Go.Proofs.YtodpdcflbnomgaaGreat
open Go.RowKit Go.Maps
set_option linter.unusedVariables false
set_option linter.unusedSimpArgs false
set_option maxRecDepth 100000

def lenOf : Value → Nat
  | .slice _ n _ => n
  | _ => 0
theorem SlR.len {w : World} {v : Value} {l : List Rg} (h : SlR w v l) : lenOf v = l.length := by
  obtain ⟨ao, cap, rfl, _⟩ := h; rfl
theorem mergeFrom_gap {w r : Rg} {l : List Rg} (h : r.c ≠ w.c ∨ w.t < r.f) : mergeFrom w (r :: l) = w :: mergeFrom r l := by rw [mergeFrom, if_pos h]
theorem mergeFrom_on {w r : Rg} {l : List Rg} (h : ¬ (r.c ≠ w.c ∨ w.t < r.f)) : mergeFrom w (r :: l) = mergeFrom ⟨w.c, w.f, max w.t r.t⟩ l := by rw [mergeFrom, if_neg h]

set_option maxHeartbeats 4000000 in
theorem cleanI_any (l : List Rg) (v : Value) (w : World) (hs : SlR w v l) (hll : l.length ≤ 1073741824) :
    Calls Tryz.prog 23 #[v] w fun e w' => ∃ v' out, e = .returned v' ∧ NewR w w' v' out ∧ Form (tns out) (turnOf (tns l)) ∧ out.length ≤ l.length := by
  have hv1 : v.oneCell' = true := by obtain ⟨ao, cap, rfl, _⟩ := hs; rfl
  have HO := onlyR_any v (.func (.func 41) #[] #[]) w hv1 rfl
  have HC := pickedR 41 Rg.ok l v w hs hll (enters_of Tryz.func41 (by kernel_rfl) rfl) (fun r W => (rightRange_any r W).mono fun e w' ⟨h1, h2⟩ => ⟨h1, by rw [h2]; exact (Grows.refl W).alloc _⟩)
  obtain ⟨ao, cap, rfl, _⟩ := hs
  go_enter Tryz.func23, Tryz.ntmps23
  go_wp2_with fail
  go_step3
  go_wp2_with fail
  refine HO.mono ?_
  rintro e w1 ⟨rfl, rfl⟩
  go_wp2_with fail
  refine HC.mono ?_
  rintro e w2 ⟨v2, rfl, hN2⟩
  have HS := sortR_any w w2 v2 (l.filter Rg.ok) hN2 (by have := List.length_filter_le Rg.ok l; omega)
  obtain ⟨ao2, cap2, rfl, _⟩ := hN2.shape
  clear HO HC
  go_wp2_with fail
  refine HS.mono ?_
  rintro e w3 ⟨rfl, s, hp, hsort, hsl, ht⟩
  have HF : Hid (Form (tns (mergeR s)) (turnOf (tns l))) := clean_form hp hsort
  have hslen : (l.filter Rg.ok).length = s.length := hp.length_eq.symm
  have hsll : s.length ≤ l.length := by have := List.length_filter_le Rg.ok l; omega
  have hsl30 : s.length ≤ 1073741824 := by omega
  have HT3 : Hid (Touch (fun _ => False) w w3) := ht
  clear HS hp hsort hN2 ht
  rw [hslen] at hsl ⊢
  clear hslen
  go_wp2_with fail
  go_step3
  go_wp2_with fail
  go_loopg [3, 4] s.length (fun g s3 s4 wx => ∃ rs out, g = rs.length ∧ Hid (SlR w3 s3 rs ∧ NewR w3 wx s4 out ∧ mergeR s = out ++ mergeR rs) ∧ out.length + rs.length ≤ s.length ∧ (∃ ao cap, s3 = .slice ao rs.length cap) ∧ ∃ ao cap, s4 = .slice ao out.length cap)
  case atStart => exact ⟨s, [], rfl, ⟨hsl, NewR.nil w3 w3 (Touch.refl _ _), rfl⟩, by simp, ⟨_, _, rfl⟩, ⟨_, _, rfl⟩⟩
  case round =>
    obtain ⟨rs, out, rfl, H, hlen, ⟨ao3, cap3, rfl⟩, ⟨ao4, cap4, rfl⟩⟩ := hrel
    obtain ⟨wo, hwo⟩ : ∃ wo, wo = wr := ⟨_, rfl⟩
    subst hwo
    cases rs with
    | nil =>
      have HR : Hid (mergeR s = out) := by have := H.out.2.2; rw [show mergeR [] = [] from rfl, List.append_nil] at this; exact this
      simp only [List.length_nil] at *
      go_wp2_with fail
      try rw [Exit.noGoto_ret]
      go_ret
      exact ⟨_, out, rfl, H.out.2.1.since HT3.out, by rw [← HR.out]; exact HF.out, by omega⟩
    | cons r0 rs =>
      obtain ⟨b, o, cap, e, hcap, hcm, hblt, hrow⟩ := (H.out.1.touch H.out.2.1.touch).row (by simp)
      obtain ⟨rfl, _, rfl⟩ : ao3 = some ⟨b, o, none⟩ ∧ True ∧ cap3 = cap := by simpa using e
      obtain ⟨c0, c1, c2⟩ := hrow 0 (by simp)
      simp only [Nat.zero_mul, Nat.add_zero, List.getElem_cons_zero] at c0 c1 c2
      have HM : Hid (mergeR s = out ++ mergeFrom r0 rs) := H.out.2.2
      have hs1 : SlR w3 (.slice (if cap3 = 1 then some ⟨b, o, none⟩ else (some (⟨b, o, none⟩ : Addr)).map (·.add (1 * 3))) ((r0 :: rs).length - 1) (cap3 - 1)) rs := H.out.1.from 1 (by simp)
      have hsl1 : ∀ W, (Instr.slice 29 (.slice (some ⟨b, o, none⟩) (r0 :: rs).length cap3) (some (.int .i64 (1 : Int))) none none).run Tryz.prog W = .ok (.slice (if cap3 = 1 then some ⟨b, o, none⟩ else (some (⟨b, o, none⟩ : Addr)).map (·.add (1 * 3))) ((r0 :: rs).length - 1) (cap3 - 1)) W := fun W => sliceR_from (some ⟨b, o, none⟩) (r0 :: rs).length cap3 1 (by simp) W
      have hn1 : (r0 :: rs).length - 1 = rs.length := by simp
      rw [hn1] at hs1 hsl1
      have hrl : (r0 :: rs).length = rs.length + 1 := by simp
      have HSL : Hid (∀ c : Nat, c ≤ rs.length + 1 → ∀ W, (Instr.slice 29 (.slice (some ⟨b, o, none⟩) (rs.length + 1) cap3) (some (.int .i64 (c : Int))) none none).run Tryz.prog W = .ok (.slice (if cap3 = c then some ⟨b, o, none⟩ else (some (⟨b, o, none⟩ : Addr)).map (·.add (c * 3))) (rs.length + 1 - c) (cap3 - c)) W) := fun c hc W => sliceR_from (some ⟨b, o, none⟩) (rs.length + 1) cap3 c hc W
      have HSd : Hid (∀ c, c ≤ rs.length + 1 → SlR w3 (.slice (if cap3 = c then some ⟨b, o, none⟩ else (some (⟨b, o, none⟩ : Addr)).map (·.add (c * 3))) (rs.length + 1 - c) (cap3 - c)) ((r0 :: rs).drop c)) := fun c hc => by
        have := H.out.1.from c (by rw [hrl]; exact hc)
        rw [hrl] at this; exact this
      rw [hrl] at hsl1 hlen ⊢
      generalize (if cap3 = 1 then some ⟨b, o, none⟩ else (some (⟨b, o, none⟩ : Addr)).map (·.add (1 * 3))) = ao1 at hs1 hsl1
      have HN : Hid (NewR w3 wo (.slice ao4 out.length cap4) out) := H.out.2.1
      have HS1 : Hid (SlR w3 (.slice ao1 rs.length (cap3 - 1)) rs) := hs1
      clear hrow e H hs1 hn1 hrl
      generalize cap3 - 1 = cap1 at *
      go_wp2_with fail
      clear c0 c1 c2
      go_loopg [3, 4, 22] rs.length (fun g s3 s4 s22 wx => ∃ (j : Nat) (whole : Rg), j + g = rs.length ∧ s3 = .slice (some ⟨b, o, none⟩) (rs.length + 1) cap3 ∧ s4 = .slice ao4 out.length cap4 ∧ s22 = .int .i64 (j : Int) ∧ Hid (Touch (fun _ => False) wo wx ∧ wx.heap[wo.heap.size]? = some (rgO whole) ∧ mergeFrom r0 rs = mergeFrom whole (rs.drop j)))
      case atStart => exact ⟨0, r0, by omega, rfl, rfl, rfl, ⟨(Touch.refl _ wo).alloc _, heap_alloc_new wo _, rfl⟩⟩
      case round =>
        obtain ⟨wx, hwx⟩ : ∃ wx, wx = wr := ⟨_, rfl⟩
        subst hwx
        obtain ⟨j, whole, hjg, rfl, rfl, rfl, HI⟩ := hrel
        obtain ⟨wc, wf, wt⟩ := whole
        have hbw := HI.out.2.1
        have hbl := lt_of_heap hbw
        have k0 : wx.cell? ⟨wo.heap.size, 0, none⟩ = some (.int .u64 wc) := by rw [cell_of_block hbw]; rfl
        have k1 : wx.cell? ⟨wo.heap.size, 1, none⟩ = some (.int .u64 wf) := by rw [cell_of_block hbw]; rfl
        have k2 : wx.cell? ⟨wo.heap.size, 2, none⟩ = some (.int .u64 wt) := by rw [cell_of_block hbw]; rfl
        have HBW : Hid (wx.heap[wo.heap.size]? = some (rgO ⟨wc, wf, wt⟩)) := hbw
        clear hbw
        by_cases hlt : j < rs.length
        · have hne : rs ≠ [] := by rintro rfl; simp at hlt
          obtain ⟨b1, o1, cp1, e1, _, _, hb1, hrow⟩ := (HS1.out.touch (HN.out.touch.trans HI.out.1)).row hne
          obtain ⟨rfl, _, rfl⟩ : ao1 = some ⟨b1, o1, none⟩ ∧ True ∧ cap1 = cp1 := by simpa using e1
          obtain ⟨c0, c1, c2⟩ := hrow j hlt
          have HD : Hid (rs.drop j = rs[j] :: rs.drop (j + 1)) := List.drop_eq_getElem_cons hlt
          generalize rs[j] = r at *
          obtain ⟨rc, rf, rt⟩ := r
          simp only at c0 c1 c2
          have q0 : (wx.alloc (rgO ⟨rc, rf, rt⟩)).heap[wo.heap.size]? = some (rgO ⟨wc, wf, wt⟩) := (Below.heap_alloc _ _ _ hbl).trans HBW.out
          have l0 : (wx.alloc (rgO ⟨rc, rf, rt⟩)).cell? ⟨wo.heap.size, 0, none⟩ = some (.int .u64 wc) := by rw [cell_of_block q0]; rfl
          have l1 : (wx.alloc (rgO ⟨rc, rf, rt⟩)).cell? ⟨wo.heap.size, 1, none⟩ = some (.int .u64 wf) := by rw [cell_of_block q0]; rfl
          have l2 : (wx.alloc (rgO ⟨rc, rf, rt⟩)).cell? ⟨wo.heap.size, 2, none⟩ = some (.int .u64 wt) := by rw [cell_of_block q0]; rfl
          have lf : (wx.alloc (rgO ⟨rc, rf, rt⟩)).frozen? ⟨wo.heap.size, 2, none⟩ = false := free_of_block q0
          have TX : Hid (Touch (fun _ => False) wo (wx.alloc (rgO ⟨rc, rf, rt⟩))) := HI.out.1.alloc _
          have HQ0 : Hid ((wx.alloc (rgO ⟨rc, rf, rt⟩)).heap[wo.heap.size]? = some (rgO ⟨wc, wf, wt⟩)) := q0
          clear hrow e1 hne q0
          by_cases hgap : rc ≠ wc ∨ wt < rf
          · obtain ⟨v5, w5, hrun, hN5, _⟩ := NewR.app1 (HN.out.on TX.out) ⟨wc, wf, wt⟩ (by omega)
            rw [World.size_alloc] at hrun
            have hdr : (r0 :: rs).drop (1 + j) = rs.drop j := by rw [Nat.add_comm]; rfl
            have HE : Hid (NewR w3 w5 v5 (out ++ [⟨wc, wf, wt⟩]) ∧ SlR w3 (.slice (if cap3 = 1 + j then some ⟨b, o, none⟩ else (some (⟨b, o, none⟩ : Addr)).map (·.add ((1 + j) * 3))) (rs.length + 1 - (1 + j)) (cap3 - (1 + j))) (rs.drop j) ∧ mergeR s = (out ++ [⟨wc, wf, wt⟩]) ++ mergeR (rs.drop j)) := by
              refine ⟨hN5, ?_, ?_⟩
              · have := HSd.out (1 + j) (by omega)
                rw [hdr] at this; exact this
              · rw [HM.out, HI.out.2.2, HD.out, mergeFrom_gap hgap, List.append_assoc]; rfl
            have hsl2 : ∀ W, (Instr.slice 29 (.slice (some ⟨b, o, none⟩) (rs.length + 1) cap3) (some (.int .i64 ((1 : Int) + (j : Int)))) none none).run Tryz.prog W = .ok (.slice (if cap3 = 1 + j then some ⟨b, o, none⟩ else (some (⟨b, o, none⟩ : Addr)).map (·.add ((1 + j) * 3))) (rs.length + 1 - (1 + j)) (cap3 - (1 + j))) W := fun W => by
              have := HSL.out (1 + j) (by omega) W
              rw [show ((1 + j : Nat) : Int) = (1 : Int) + (j : Int) from by omega] at this; exact this
            have hdl : rs.length + 1 - (1 + j) = rs.length - j := by omega
            rw [hdl] at HE hsl2
            have HLen : Hid ((rs.drop j).length = rs.length - j ∧ (out ++ [(⟨wc, wf, wt⟩ : Rg)]).length = out.length + 1) := ⟨List.length_drop, by simp⟩
            obtain ⟨ao5, cap5, hv5, _⟩ := hN5.shape
            rw [HLen.out.2] at hv5
            subst hv5
            generalize (if cap3 = 1 + j then some ⟨b, o, none⟩ else (some (⟨b, o, none⟩ : Addr)).map (·.add ((1 + j) * 3))) = ao6 at HE hsl2
            generalize cap3 - (1 + j) = cap6 at HE hsl2
            clear hN5 hdr hdl HSL HSd
            by_cases hc : rc = wc
            · have hf : wt < rf := by omega
              subst hc
              clear hgap
              go_wp2_with (at_builtin; refine wpList_append_runR rfl _ _ rfl _ _ _ rfl rfl hrun ?_)
              go_roundg (rs.length - j)
              case measure => simp only [List.length_cons]; omega
              case rel => exact ⟨rs.drop j, _, HLen.out.1.symm, ⟨HE.out.2.1, HE.out.1, HE.out.2.2⟩, by rw [HLen.out.1, HLen.out.2]; omega, ⟨_, _, by rw [HLen.out.1]⟩, ⟨_, _, by rw [HLen.out.2]⟩⟩
            · clear hgap
              go_wp2_with (at_builtin; refine wpList_append_runR rfl _ _ rfl _ _ _ rfl rfl hrun ?_)
              go_roundg (rs.length - j)
              case measure => simp only [List.length_cons]; omega
              case rel => exact ⟨rs.drop j, _, HLen.out.1.symm, ⟨HE.out.2.1, HE.out.1, HE.out.2.2⟩, by rw [HLen.out.1, HLen.out.2]; omega, ⟨_, _, by rw [HLen.out.1]⟩, ⟨_, _, by rw [HLen.out.2]⟩⟩
          · have hc : rc = wc := by omega
            subst hc
            have hf : ¬ wt < rf := by omega
            have HE : Hid (mergeFrom ⟨rc, wf, wt⟩ (rs.drop j) = mergeFrom ⟨rc, wf, max wt rt⟩ (rs.drop (j + 1))) := by rw [Hid, HD.out]; exact mergeFrom_on (by simpa using hgap)
            have HW : Hid (((wx.setCell ⟨wo.heap.size, 2, none⟩ (.int .u64 (max wt rt))).alloc (rgO ⟨rc, rf, rt⟩)).heap[wo.heap.size]? = some (rgO ⟨rc, wf, max wt rt⟩) ∧ Touch (fun _ => False) wo ((wx.setCell ⟨wo.heap.size, 2, none⟩ (.int .u64 (max wt rt))).alloc (rgO ⟨rc, rf, rt⟩))) := by
              refine ⟨(Below.heap_alloc _ _ _ (by rw [size_setCell]; exact hbl)).trans ?_, (HI.out.1.setCell _ _ (fun h => absurd h (Nat.lt_irrefl _))).alloc _⟩
              rw [heap_setCell_same _ _ _ _ HBW.out]; rfl
            clear hgap
            go_wp2_with fail
            all_goals go_roundg (rs.length - (j + 1))
            all_goals (first | (case measure => omega) | skip)
            all_goals exact ⟨j + 1, ⟨rc, wf, max wt rt⟩, by omega, rfl, rfl, by go_num, ⟨HW.out.2, HW.out.1, by rw [HI.out.2.2, HE.out]⟩⟩
        · have hjl : j = rs.length := by omega
          subst hjl
          obtain ⟨v5, w5, hrun, hN5, _⟩ := NewR.app1 (HN.out.on HI.out.1) ⟨wc, wf, wt⟩ (by omega)
          have HQ : Hid (Form (tns (out ++ [⟨wc, wf, wt⟩])) (turnOf (tns l)) ∧ NewR w w5 v5 (out ++ [⟨wc, wf, wt⟩])) := by
            refine ⟨?_, hN5.since HT3.out⟩
            have := HM.out
            rw [HI.out.2.2, List.drop_length] at this
            rw [show out ++ [⟨wc, wf, wt⟩] = mergeR s from this.symm]; exact HF.out
          obtain ⟨ao5, cap5, hv5, _⟩ := hN5.shape
          subst hv5
          clear hN5
          go_wp2_with (at_builtin; refine wpList_append_runR rfl _ _ rfl _ _ _ rfl rfl hrun ?_)
          try rw [Exit.noGoto_ret]
          refine bodyPost_ret (v := .slice ao5 (out ++ [(⟨wc, wf, wt⟩ : Rg)]).length cap5) (by simp [results, Tryz.results23, go_sem]) rfl ?_
          exact ⟨_, _, rfl, HQ.out.2, HQ.out.1, by simp; omega⟩
end Go.Proofs.YtodpdcflbnomgaaGreat

/- Package maps: New, Hide, Set, Is, Get on a Maps in memory. -/
namespace Go.Proofs.YtodpdcflbnomgaaGreat
open Go.RowKit Go.Maps
set_option linter.unusedVariables false
set_option linter.unusedSimpArgs false
set_option maxRecDepth 100000

theorem hasB_clean {l out : List Rg} (hF : Form (tns out) (turnOf (tns l))) (c k : Int) : hasB out c k = hasB l c k := by
  rw [hasB_turn, hasB_turn, hF.1.turnOf, hF.2]
section
variable {w : World} {g mt mk : Nat} {hv : Value} {os : List (Key × Inn)} {s : MS}
theorem MapsC.notRg (h : MapsC w g mt mk hv os s) {k : Nat} (hk : footM g mt mk hv os k) (hn : hv.ownBlock ≠ some k) : ¬ RgB w k := by
  rintro ⟨c, hc⟩
  rcases hk with rfl | rfl | rfl | e | ⟨p, hp, rfl | ⟨q, hq, e⟩⟩
  · rw [h.cells] at hc; simp at hc
  · exact notMapCells h.told hc
  · exact notMapCells h.keys hc
  · exact hn e
  · exact notMapCells (h.inn p hp).owns hc
  · obtain ⟨c2, hc2⟩ := row_ltM ((h.inn p hp).rows q hq) e
    rw [hc] at hc2
    simp at hc2
theorem MPost.same {F : Nat → Prop} {w' : World} (h : MapsAt w g F s) (t : Touch (fun _ => False) w w') : MPost g F s w w' :=
  ⟨F, h.touch t fun _ _ => id, t.mono fun _ _ h => h.elim, fun _ _ h => h⟩
theorem set_any {F : Nat → Prop} (h : MapsAt w g F s) (hsm : SmallS s) (o : O) (hf : o.fits) (hky : o.ky.size ≤ 281474976710656) :
    Calls Tryz.prog 15 #[.pointer (some ⟨g, 0, none⟩), o.val] w fun e w' => e = .returned (.bool (okS s o)) ∧ MPost g F (setS s o) w w' := by
  have h0 := h
  obtain ⟨mt, mk, hv, os, hC, hF, hl⟩ := h
  cases hok : okS s o with
  | false =>
    refine (set_no hC o hf hok).mono ?_
    rintro e w' ⟨rfl, t⟩
    refine ⟨rfl, ?_⟩
    have : setS s o = s := by unfold setS; rw [hok]; rfl
    rw [this]
    exact MPost.same h0 t
  | true =>
    refine (set_yes hC hsm o hf hky hok).mono ?_
    rintro e w' ⟨rfl, os', S, hC', t, hS, hf'⟩
    exact ⟨rfl, mpost_of hl hC' t (fun k hk => ⟨hF k (hS k hk).1, hC.notRg (hS k hk).1 (hS k hk).2⟩) fun k hk hk2 => hF k (hf' k hk hk2)⟩
theorem is_any {F : Nat → Prop} (h : MapsAt w g F s) {c k : Int} (hc : U64 c) (hk : U64 k) :
    Calls Tryz.prog 18 #[.pointer (some ⟨g, 0, none⟩), idV c k] w fun e w' => e = .returned (.bool (isS s c k)) ∧ Touch (fun _ => False) w w' := by
  obtain ⟨mt, mk, hv, os, hC, hF, hl⟩ := h
  exact isC_any hC hc hk
theorem get_any {F : Nat → Prop} (h : MapsAt w g F s) {c k : Int} (hc : U64 c) (hk : U64 k) (ky : ByteArray) (hky : ky.size ≤ maxLen) :
    Calls Tryz.prog 9 #[.pointer (some ⟨g, 0, none⟩), idV c k, .string ky] w fun e w' => e = .returned (.tuple #[(getS s c k ky).1.val, .bool (getS s c k ky).2]) ∧ Touch (fun _ => False) w w' := by
  obtain ⟨mt, mk, hv, os, hC, hF, hl⟩ := h
  exact getC_any hC hc hk ky hky
/-- Hidden ranges laid in the old ones' place. -/
theorem MapsC.hidePut (h : MapsC w g mt mk hv os s) {w1 : World} {v' : Value} {out : List Rg} (hn : NewR w w1 v' out) (hr : Rise out) (hl : out.length ≤ 1073741824) :
    MapsC (w1.setCell ⟨g, 2, none⟩ v') g mt mk v' os { s with hid := out } := by
  have h1 := h.quiet hn.touch
  have t : Touch (fun k => k = g) w1 (w1.setCell ⟨g, 2, none⟩ v') := (Touch.refl (fun k => k = g) w1).setCell _ _ fun _ => rfl
  refine ⟨?_, owns_touchM h1.told t (fun e => h1.ne_tg e), owns_touchM h1.keys t (fun e => h1.ne_kg e), h1.rtold, h1.rkeys, row_touchM (ty := 47) ?_ t ?_, hr, hl, fun p hp => ?_, h1.eq, h1.tk, h1.own, h1.rown⟩
  · rw [heap_setCell_same _ _ _ _ h1.cells]; rfl
  · refine ⟨hn.owns.1, ?_⟩
    rcases hn.owns.2 with e | ⟨g2, cap, cur, e, hb, r⟩
    · exact .inl e
    · exact .inr ⟨g2, cap, cur, e, Nat.zero_le _, r⟩
  · intro k hk e
    have a := hn.fresh k hk
    have b := lt_of_heap h.cells
    omega
  · exact (h1.inn p hp).touch t (fun e => h1.ne_bg hp e) fun q hq k hk e => (h1.rows_ne hp hq hk).1 e
set_option maxHeartbeats 4000000 in
theorem hide_any {F : Nat → Prop} (h : MapsAt w g F s) (l : List Rg) (v : Value) (hs : SlR w v l) (hll : l.length ≤ 1073741824) :
    Calls Tryz.prog 7 #[.pointer (some ⟨g, 0, none⟩), v] w fun e w' => e = .returned (.tuple #[]) ∧ ∃ out, Form (tns out) (turnOf (tns l)) ∧ MPost g F { s with hid := out } w w' := by
  obtain ⟨mt, mk, hv, os, hC, hF, hl⟩ := h
  have HCl : Hid (Calls Tryz.prog 23 #[v] w fun e w' => ∃ v' out, e = .returned v' ∧ NewR w w' v' out ∧ Form (tns out) (turnOf (tns l)) ∧ out.length ≤ l.length) := cleanI_any l v w hs hll
  have H0 : Hid (MapsC w g mt mk hv os s ∧ (∀ k, footM g mt mk hv os k → F k) ∧ ∀ k, F k → k < w.heap.size) := ⟨hC, hF, hl⟩
  have HL : Hid (l.length ≤ 1073741824) := hll
  have hv1 : v.oneCell' = true := by obtain ⟨ao, cap, rfl, _⟩ := hs; rfl
  clear hC hF hl hs hll
  go_enter Tryz.func7, Tryz.ntmps7
  go_wp2_with fail
  refine HCl.out.mono ?_
  rintro e w1 ⟨v', out, rfl, hn, hfm, hol⟩
  have hv2 : v'.oneCell' = true := by obtain ⟨ao, cap, rfl, _⟩ := hn.sl; rfl
  have c2 : w1.cell? ⟨g, 2, none⟩ = some hv := (H0.out.1.quiet hn.touch).c2
  have fr : w1.frozen? ⟨g, 2, none⟩ = false := free_of_block (H0.out.1.quiet hn.touch).cells
  obtain ⟨ao', cap', hv3, -⟩ := hn.sl.shape
  have HQ : Hid (Form (tns out) (turnOf (tns l)) ∧ MPost g F { s with hid := out } w (w1.setCell ⟨g, 2, none⟩ v')) := by
    refine ⟨hfm, ?_⟩
    have hC' := H0.out.1.hidePut hn (Rise.of_canon out hfm.1) (by have := HL.out; omega)
    refine mpost_of (S := fun k => k = g) H0.out.2.2 hC' ((hn.touch.mono fun _ _ q => q.elim).trans ((Touch.refl (fun k => k = g) w1).setCell _ _ fun _ => rfl)) ?_ ?_
    · rintro k rfl
      refine ⟨H0.out.2.1 _ (.inl rfl), ?_⟩
      refine H0.out.1.notRg (.inl rfl) fun e => (H0.out.1.hid_ne e).1 rfl
    · intro k hk hfo
      rcases hfo with e | e | e | e | e
      · exact H0.out.2.1 k (.inl e)
      · exact H0.out.2.1 k (.inr (.inl e))
      · exact H0.out.2.1 k (.inr (.inr (.inl e)))
      · exact absurd (hn.fresh k e) (by omega)
      · exact H0.out.2.1 k (.inr (.inr (.inr (.inr e))))
  subst hv3
  clear hn hfm hol hv2 HCl
  go_wp2_with fail
  go_end0
  exact ⟨rfl, out, HQ.out⟩
end
/-- No sets, the root map. -/
def newS : MS := ⟨[], [(kI 0 0, [])], []⟩
set_option maxHeartbeats 4000000 in
theorem newMaps_any (w : World) : Calls Tryz.prog 6 #[] w fun e w' => ∃ g F, e = .returned (.pointer (some ⟨g, 0, none⟩)) ∧ MapsAt w' g F newS ∧ Touch (fun _ => False) w w' ∧ ∀ k, F k → w.heap.size ≤ k := by
  have hmm := @run_makeMap Tryz.prog
  obtain ⟨W3, hW3⟩ : ∃ W, W = ((w.alloc (.map #[] 0)).alloc (.map #[] 0)).alloc (.map #[] 0) := ⟨_, rfl⟩
  have s1 : ((w.alloc (.map #[] 0))).heap.size = w.heap.size + 1 := by simp
  have s2 : ((w.alloc (.map #[] 0)).alloc (.map #[] 0)).heap.size = w.heap.size + 1 + 1 := by simp
  have t3 : Touch (fun _ => False) w W3 := by rw [hW3]; exact (((Touch.refl _ _).alloc _).alloc _).alloc _
  have o1 : ToldAt W3 w.heap.size 0 [] := by rw [hW3]; exact ((World.ownsMap_made w _ _ _).alloc _).alloc _
  have o2 : ToldAt W3 (w.heap.size + 1) 0 [] := by
    have := (World.ownsMap_made (w.alloc (.map #[] 0)) Tryz.prog 34 heldO).alloc (.map #[] 0)
    rw [s1] at this
    rw [hW3]; exact this
  have o3 : RanksAt W3 (w.heap.size + 1 + 1) 0 [] := by
    have := World.ownsMap_made ((w.alloc (.map #[] 0)).alloc (.map #[] 0)) Tryz.prog 9 heldO
    rw [s2] at this
    rw [hW3]; exact this
  obtain ⟨W4, hrun, o4, t4⟩ := keys_put o2 (by unfold maxLen; omega) (c := 0) (k := 0) ⟨by decide, by decide⟩ ⟨by decide, by decide⟩ (.map (some (w.heap.size + 1 + 1)))
  have q4 := turned_touch t4
  obtain ⟨W5, hW5⟩ : ∃ W, W = W4.alloc (.cells #[.map (some w.heap.size), .map (some (w.heap.size + 1)), .slice none 0 0] 66) := ⟨_, rfl⟩
  have t45 : Touch (fun _ => False) W4 W5 := by rw [hW5]; exact (Touch.refl _ _).alloc _
  have hsz4 : w.heap.size + 1 + 1 < W4.heap.size := by have := q4.size; have := o3.lt; omega
  have HQ : Hid (MapsAt W5 W4.heap.size (fun k => w.heap.size ≤ k ∧ k < W5.heap.size) newS ∧ Touch (fun _ => False) w W5) := by
    have hC : MapsC W5 W4.heap.size w.heap.size (w.heap.size + 1) (.slice none 0 0) [(kI 0 0, ⟨w.heap.size + 1 + 1, []⟩)] newS := by
      refine ⟨?_, ?_, ?_, List.Pairwise.nil, List.pairwise_singleton _ _, World.ownsRow_nil _ _ _ _, ⟨List.Pairwise.nil, (fun r hr => by cases hr)⟩, Nat.zero_le _, ?_, rfl, by omega, ?_, ⟨fun _ => none, ?_⟩⟩
      · rw [hW5]; exact heap_alloc_new _ _
      · exact owns_touchM (owns_touchM o1 q4 (by omega)) t45 id
      · have := owns_touchM o4 t45 id
        exact this
      · intro p hp
        rw [List.mem_singleton] at hp
        subst hp
        exact ⟨owns_touchM (owns_touchM o3 q4 (by simp)) t45 id, List.Pairwise.nil, (fun q hq => by cases hq), (fun q hq => by cases hq)⟩
      · refine ⟨fun k => if k = w.heap.size + 1 + 1 then some (kI 0 0) else none, ?_, ?_, ?_⟩
        · show (if _ then _ else _) = _
          rw [if_neg (by omega)]
        · show (if _ then _ else _) = _
          rw [if_neg (by omega)]
        · intro p hp
          rw [List.mem_singleton] at hp
          subst hp
          exact if_pos rfl
      · intro p hp q hq
        rw [List.mem_singleton] at hp
        subst hp
        cases hq
    refine ⟨⟨_, _, _, _, hC, fun k hk => ⟨?_, hC.foot_lt hk⟩, fun k hk => hk.2⟩, ?_⟩
    · rcases hk with e | e | e | e | ⟨p, hp, e⟩
      · omega
      · omega
      · omega
      · simp [Value.ownBlock] at e
      · rw [List.mem_singleton] at hp
        subst hp
        rcases e with e | ⟨q, hq, _⟩
        · simp only at e; omega
        · cases hq
    · exact (t3.then q4 fun k hk e => by omega).trans t45
  have HW5 : Hid (W5 = W4.alloc (.cells #[.map (some w.heap.size), .map (some (w.heap.size + 1)), .slice none 0 0] 66)) := hW5
  rw [hW3] at hrun
  clear hW3 hW5 s1 s2 t3 o1 o2 o3 o4 t4 q4 t45 hsz4
  go_enter Tryz.func6, Tryz.ntmps6
  go_wp2_with fail
  rw [← HW5.out]
  go_ret
  exact ⟨W4.heap.size, _, rfl, HQ.out.1, HQ.out.2, fun k hk => hk.1⟩
end Go.Proofs.YtodpdcflbnomgaaGreat
