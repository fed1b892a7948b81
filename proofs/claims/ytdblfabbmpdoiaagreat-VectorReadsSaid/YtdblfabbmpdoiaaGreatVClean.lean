/- The contracts of vector.sortedBy and vector.Clean. -/
import Derived.Test.YtdblfabbmpdoiaaGreatSortC
import Derived.Test.YtdblfabbmpdoiaaGreatVecB
import Derived.BigQuiet
import Derived.Deep.LoopGhost
namespace Go.Proofs.YtdblfabbmpdoiaaGreat
open Go.RowKit Go.Maps
set_option linter.unusedVariables false
set_option linter.unusedSimpArgs false
set_option maxRecDepth 100000
--STUB
theorem Touch.drewC {S : Nat → Prop} {a b : World} (h : Touch S a b) (q : Nat) : Touch S a (b.drewN q) := ⟨h.os, h.tape, h.output, h.size, h.block⟩

set_option maxHeartbeats 800000 in
theorem sortedC_any (l : List Ck) (v : Value) (w : World) (hs : SlC w v l) (hll : l.length ≤ 1073741824) :
    Calls Tryz.prog 28 #[v, .func (.func 29) #[] #[]] w fun e w' => ∃ v' s, e = .returned v' ∧ SlC w' v' s ∧ s.Perm l ∧ s.Pairwise (fun a b : Ck => a.c ≤ b.c) ∧ Touch (fun _ => False) w w' := by
  have HC := fun W (t : Touch (fun _ => False) w W) => cloneC_any l v W (hs.touch t) hll
  obtain ⟨ao, cap, rfl, _⟩ := hs
  go_enter Tryz.func28, Tryz.ntmps28
  go_wp2_with fail
  refine (HC _ ((Touch.refl _ w).alloc _)).mono ?_
  rintro e w1 ⟨v1, rfl, hN⟩
  have hB0 := heap_alloc_new w (.cells #[.func (.func 29) #[] #[]] 62)
  have hB1 := (hN.touch.block _ (lt_of_heap hB0) id).trans hB0
  have HS := sortC_any _ w1 v1 l hN hll w.heap.size (by rw [cell_of_block hB1]; rfl) (fun k hk => by have := hN.fresh k hk; rw [World.size_alloc] at this; omega)
  have HT : Hid (Touch (fun _ => False) w (w.alloc (.cells #[.func (.func 29) #[] #[]] 62))) := (Touch.refl _ w).alloc _
  obtain ⟨ao1, cap1, rfl, _⟩ := hN.shape
  clear HC hN hB0 hB1
  go_wp2_with fail
  refine HS.mono ?_
  rintro e w2 ⟨rfl, s, hp, hsort, hsl, ht⟩
  have HQ : Hid (SlC w2 (.slice ao1 l.length cap1) s ∧ s.Perm l ∧ s.Pairwise (fun a b : Ck => a.c ≤ b.c) ∧ Touch (fun _ => False) w w2) := ⟨hsl, hp, hsort, HT.out.trans ht⟩
  clear HS hp hsort hsl ht
  go_wp2_with fail
  go_ret
  exact ⟨_, s, rfl, HQ.out⟩

theorem last_ofC (l : List Ck) (h : l ≠ []) : ∃ p x, l = p ++ [x] := ⟨l.dropLast, l.getLast h, (List.dropLast_concat_getLast h).symm⟩
/-- What the loop of Clean holds: of the first j of s the form is laid. -/
def ClnC (s : List Ck) (j : Nat) (out : List Ck) : Prop := VForm out (atC (s.take j)) ∧ out.length ≤ j ∧ ∀ y ∈ out, ∃ x ∈ s.take j, x.c = y.c
theorem ClnC.below {s : List Ck} {j : Nat} {out : List Ck} (h : ClnC s j out) (hs : s.Pairwise (fun a b : Ck => a.c ≤ b.c)) (hj : j < s.length) : ∀ y ∈ out, y.c ≤ s[j].c := by
  intro y hy
  obtain ⟨x, hx, e⟩ := h.2.2 y hy
  obtain ⟨i, hi, rfl⟩ := List.mem_iff_getElem.1 hx
  rw [List.getElem_take] at e
  rw [← e]
  have hi' : i < j := by rw [List.length_take] at hi; omega
  exact List.pairwise_iff_getElem.1 hs i j (by omega) hj hi'
theorem ClnC.skip {s : List Ck} {j : Nat} {out : List Ck} (h : ClnC s j out) (hj : j < s.length) (hx : s[j].cap.ok = false) : ClnC s (j + 1) out := by
  have e := List.take_succ_eq_append_getElem hj
  refine ⟨by rw [e]; exact h.1.skip hx, by have := h.2.1; omega, fun y hy => ?_⟩
  obtain ⟨x, hx, q⟩ := h.2.2 y hy
  exact ⟨x, by rw [e]; exact List.mem_append_left _ hx, q⟩
theorem ClnC.push {s : List Ck} {j : Nat} {out : List Ck} (h : ClnC s j out) (hj : j < s.length) (hx : s[j].cap.ok = true) (hl : ∀ y ∈ out, y.c < s[j].c) : ClnC s (j + 1) (out ++ [s[j].cap]) := by
  have e := List.take_succ_eq_append_getElem hj
  refine ⟨by rw [e]; exact h.1.push hx hl, by have := h.2.1; simp; omega, fun y hy => ?_⟩
  rcases List.mem_append.1 hy with hy | hy
  · obtain ⟨x, hx, q⟩ := h.2.2 y hy
    exact ⟨x, by rw [e]; exact List.mem_append_left _ hx, q⟩
  · rw [List.mem_singleton] at hy; subst hy
    exact ⟨s[j], by rw [e]; exact List.mem_append_right _ (List.mem_singleton.2 rfl), rfl⟩
theorem ClnC.again {s : List Ck} {j : Nat} {p : List Ck} {z : Ck} (h : ClnC s j (p ++ [z])) (hj : j < s.length) (hx : s[j].cap.ok = true) (hz : z.c = s[j].c) : ClnC s (j + 1) (p ++ [⟨z.c, max z.k s[j].cap.k⟩]) := by
  have e := List.take_succ_eq_append_getElem hj
  refine ⟨by rw [e]; exact h.1.again hx hz, by have := h.2.1; simp at *; omega, fun y hy => ?_⟩
  rcases List.mem_append.1 hy with hy | hy
  · obtain ⟨x, hx, q⟩ := h.2.2 y (List.mem_append_left _ hy)
    exact ⟨x, by rw [e]; exact List.mem_append_left _ hx, q⟩
  · rw [List.mem_singleton] at hy; subst hy
    exact ⟨s[j], by rw [e]; exact List.mem_append_right _ (List.mem_singleton.2 rfl), hz.symm⟩

set_option maxHeartbeats 4000000 in
theorem vclean_any (l : List Ck) (v : Value) (w : World) (hs : SlC w v l) (hll : l.length ≤ 1073741824) :
    Calls Tryz.prog 8 #[v] w fun e w' => ∃ v' out, e = .returned v' ∧ NewC w w' v' out ∧ VForm out (atC l) ∧ out.length ≤ l.length := by
  have HS := sortedC_any l v w hs hll
  obtain ⟨ao, cap, rfl, _⟩ := hs
  go_enter Tryz.func8, Tryz.ntmps8
  go_wp2_with fail
  refine HS.mono ?_
  rintro e w1 ⟨v1, s, rfl, hsl, hp, hsort, ht⟩
  have HW : Hid (Touch (fun _ => False) w w1 ∧ s.Pairwise (fun a b : Ck => a.c ≤ b.c) ∧ ∀ c, atC s c = atC l c) := ⟨ht, hsort, fun c => atC_perm hp c⟩
  have HSl : Hid (SlC w1 v1 s) := hsl
  have HLn : Hid (s.length = l.length) := hp.length_eq
  have hsl30 : s.length ≤ 1073741824 := by rw [hp.length_eq]; exact hll
  obtain ⟨ao1, cap1, rfl, _⟩ := hsl
  have HTo := fun x W => told_any x W
  clear HS hp hsort ht
  go_wp2_with fail
  go_loopg [3, 12] s.length (fun g s3 s12 wx => ∃ (j : Nat) (out : List Ck), j + g = s.length ∧ s12 = .int .i64 (j : Int) ∧ Hid (NewC w1 wx s3 out ∧ ClnC s j out) ∧ out.length ≤ j ∧ ∃ ao cap, s3 = .slice ao out.length cap)
  case atStart => exact ⟨0, [], by omega, rfl, ⟨NewC.nil w1 w1 (Touch.refl _ _), by rw [show s.take 0 = [] from rfl]; exact VForm.nil, Nat.le_refl _, fun y hy => nomatch hy⟩, Nat.le_refl _, ⟨_, _, rfl⟩⟩
  case round =>
    obtain ⟨j, out, hjg, rfl, H, hol, ⟨ao3, cap3, rfl⟩⟩ := hrel
    by_cases hlt : j < s.length
    · have hne : s ≠ [] := by rintro rfl; simp at hlt
      obtain ⟨b, o, cp, e, _, _, hb, hrow⟩ := (HSl.out.touch H.out.1.touch).row hne
      obtain ⟨rfl, _, rfl⟩ : ao1 = some ⟨b, o, none⟩ ∧ True ∧ cap1 = cp := by simpa using e
      obtain ⟨c0, c1⟩ := hrow j hlt
      have HB : Hid (∀ y ∈ out, y.c ≤ s[j].c) := H.out.2.below HW.out.2.1 hlt
      have HSk : Hid (s[j].cap.ok = false → ClnC s (j + 1) out) := fun h => H.out.2.skip hlt h
      have HPu : Hid (s[j].cap.ok = true → (∀ y ∈ out, y.c < s[j].c) → ClnC s (j + 1) (out ++ [s[j].cap])) := fun h k => H.out.2.push hlt h k
      have HAg : Hid (∀ p z, out = p ++ [z] → s[j].cap.ok = true → z.c = s[j].c → ClnC s (j + 1) (p ++ [⟨z.c, max z.k s[j].cap.k⟩])) := fun p z e h k => by subst e; exact H.out.2.again hlt h k
      have HAc : Hid (out.Pairwise (fun a b => a.c < b.c)) := H.out.2.1.asc
      generalize s[j] = x at *
      have HT' := HTo x
      clear HTo hrow e hne
      obtain ⟨xc, xk⟩ := x
      have HXc : Hid ((⟨xc, xk⟩ : Ck).cap = ⟨xc, min xk 9007199254740991⟩) := rfl
      rw [HXc.out] at HT' HSk HPu HAg
      generalize min xk 9007199254740991 = mk at *
      simp only at HT' HSk HPu HAg HB c0 c1
      generalize Ck.ok ⟨xc, mk⟩ = tl at *
      go_wp2_with fail
      refine (HT' _).mono ?_
      rintro e w2 ⟨rfl, t2⟩
      have HN2 : Hid (NewC w1 w2 (.slice ao3 out.length cap3) out) := (H.out.1.on ((Touch.refl _ wr).alloc _)).on t2
      clear t2 H c0 c1 HT'
      cases tl with
      | false =>
        have HQ : Hid (NewC w1 (w2.alloc (ckO ⟨xc, mk⟩)) (.slice ao3 out.length cap3) out ∧ ClnC s (j + 1) out) := ⟨HN2.out.on ((Touch.refl _ w2).alloc _), HSk.out rfl⟩
        clear HN2 HSk HPu HAg HB HAc
        go_wp2_with fail
        go_roundg (s.length - (j + 1))
        case measure => omega
        case rel => exact ⟨j + 1, out, by omega, by go_num, HQ.out, by omega, ⟨_, _, rfl⟩⟩
      | true =>
        by_cases hne : out = []
        · subst hne
          have HP : Hid (ClnC s (j + 1) [⟨xc, mk⟩]) := HPu.out rfl fun y hy => nomatch hy
          have HN3 : Hid (NewC w1 (w2.alloc (ckO ⟨xc, mk⟩)) (.slice ao3 0 cap3) []) := HN2.out.on ((Touch.refl _ w2).alloc _)
          clear HN2 HSk HPu HAg HB HAc
          simp only [List.length_nil] at *
          go_wp2_with fail
          go_quiet (fail)
          obtain ⟨v5, w5, hrun, hN5, _⟩ := NewC.app1 (HN3.out.on ((Touch.refl _ _).drewC nq)) ⟨xc, mk⟩ (by simp)
          rw [show ((w2.alloc (ckO ⟨xc, mk⟩)).drewN nq).heap.size = w2.heap.size + 1 from by show (w2.alloc (ckO ⟨xc, mk⟩)).heap.size = _; rw [World.size_alloc]] at hrun
          have hrun2 : (Builtin.append_ #[22, 22] 22 #[.slice ao3 0 cap3, .slice (some ⟨w2.heap.size + 1, 0, none⟩) 1 1]).run Tryz.prog (((w2.alloc (ckO ⟨xc, mk⟩)).alloc (ckO ⟨xc, mk⟩)).drewN nq) = .ok v5 w5 := hrun
          have HQ : Hid (NewC w1 w5 v5 [⟨xc, mk⟩] ∧ ClnC s (j + 1) [⟨xc, mk⟩]) := ⟨hN5, HP.out⟩
          obtain ⟨ao5, cap5, hv5, _⟩ := hN5.shape
          subst hv5
          simp only [List.nil_append, List.length_singleton] at *
          clear hN5 hrun HN3 HP
          go_wp2_with (at_builtin; refine wpList_append_runC rfl _ _ rfl _ _ _ rfl rfl hrun2 ?_)
          go_roundg (s.length - (j + 1))
          case measure => omega
          case rel => exact ⟨j + 1, _, by omega, by go_num, HQ.out, by simp, ⟨_, _, rfl⟩⟩
        · obtain ⟨p, z, rfl⟩ := last_ofC out hne
          obtain ⟨zc, zk⟩ := z
          have hlen : (p ++ [(⟨zc, zk⟩ : Ck)]).length = p.length + 1 := by simp
          have HN3 : NewC w1 (w2.alloc (ckO ⟨xc, mk⟩)) (.slice ao3 (p ++ [(⟨zc, zk⟩ : Ck)]).length cap3) (p ++ [⟨zc, zk⟩]) := HN2.out.on ((Touch.refl _ w2).alloc _)
          obtain ⟨ao', cap', e', hg, hlc, hcm⟩ := HN3.shape
          simp only [Value.slice.injEq] at e'
          obtain ⟨rfl, _, rfl⟩ := e'
          obtain ⟨g, rfl⟩ := hg (by simp)
          obtain ⟨b2, o2, cap2, e, _, _, hblt, hrow⟩ := HN3.sl.row hne
          simp only [Value.slice.injEq, Option.some.injEq, Addr.mk.injEq] at e
          obtain ⟨⟨rfl, rfl, _⟩, _, rfl⟩ := e
          obtain ⟨q0, q1⟩ := hrow p.length (by simp)
          simp only [List.getElem_concat_length, Nat.zero_add] at q0 q1
          have hz := HB.out ⟨zc, zk⟩ (by simp)
          simp only at hz
          have HAsc : Hid (zc ≠ xc → ∀ y ∈ p ++ [(⟨zc, zk⟩ : Ck)], y.c < xc) := fun hd y hy => by
            rcases List.mem_append.1 hy with hy | hy
            · have := (List.pairwise_append.1 HAc.out).2.2 y hy ⟨zc, zk⟩ (by simp)
              simp only at this
              omega
            · rw [List.mem_singleton] at hy; subst hy; simp only; omega
          have i1 : IntKind.i64.wrap (p.length : Int) = (p.length : Int) := by simp [IntKind.wrap, IntKind.bits, IntKind.signed]; omega
          have i2 : (0 : Int) ≤ (p.length : Int) := by omega
          have i3 : (p.length : Int) < (p.length : Int) + 1 := by omega
          have HN4 : Hid (NewC w1 (w2.alloc (ckO ⟨xc, mk⟩)) (.slice (some ⟨g, 0, none⟩) (p.length + 1) cap3) (p ++ [⟨zc, zk⟩])) := by rw [← hlen]; exact HN3
          rw [hlen] at hlc hol ⊢
          clear hrow hblt HN3 HN2 hne hg
          by_cases hd : zc = xc
          · subst hd
            have HP := HAg.out p ⟨zc, zk⟩ rfl rfl rfl
            simp only at HP
            have HP2 : Hid (ClnC s (j + 1) (p ++ [⟨zc, max zk mk⟩])) := HP
            have hfz : (w2.alloc (ckO ⟨zc, mk⟩)).frozen? ⟨g, p.length * 2 + 1, none⟩ = false := HN4.out.free (by rw [hlen]) (by simp) _
            have HSt : Hid (∀ q, NewC w1 (((w2.alloc (ckO ⟨zc, mk⟩)).drewN q).setCell ⟨g, p.length * 2 + 1, none⟩ (.int .u64 (max zk mk))) (.slice (some ⟨g, 0, none⟩) (p.length + 1) cap3) (p ++ [⟨zc, max zk mk⟩])) := by
              intro q
              have h0 := HN4.out.on (show Touch (fun _ => False) (w2.alloc (ckO ⟨zc, mk⟩)) ((w2.alloc (ckO ⟨zc, mk⟩)).drewN q) from ⟨rfl, rfl, rfl, Nat.le_refl _, fun _ _ _ => rfl⟩)
              have h1 := OwnC.set h0 (by rw [hlen]) (p.length * 2 + 1) (by rw [hlen]; omega) (.int .u64 (max zk mk)) rfl
              have hx := cellsC_to (p ++ [(⟨zc, zk⟩ : Ck)]) p.length (by simp) (max zk mk)
              simp only [List.getElem_concat_length] at hx
              rw [hx] at h1
              have e : (p ++ [(⟨zc, zk⟩ : Ck)]).set p.length ⟨zc, max zk mk⟩ = p ++ [⟨zc, max zk mk⟩] := by simp
              rw [e, hlen] at h1
              show OwnC _ _ _ _ _
              rw [show (p ++ [(⟨zc, max zk mk⟩ : Ck)]).length = p.length + 1 from by simp]
              exact h1
            have hl5 : (p ++ [(⟨zc, max zk mk⟩ : Ck)]).length = p.length + 1 := by simp
            have HL5 : Hid ((p ++ [(⟨zc, max zk mk⟩ : Ck)]).length = p.length + 1) := hl5
            clear HP HAg HPu HSk HB HAsc HAc hz HN4 hlen hl5
            go_wp2_with fail
            go_quiet (fail)
            go_wp2_with fail
            go_region
            all_goals (try go_wp2_with fail)
            all_goals (go_roundg (s.length - (j + 1)))
            all_goals (first | (case measure => omega) | skip)
            all_goals exact ⟨j + 1, _, by omega, by go_num, ⟨HSt.out _, HP2.out⟩, by rw [HL5.out]; omega, ⟨_, _, by rw [HL5.out]⟩⟩
          · have HP : Hid (ClnC s (j + 1) (p ++ [⟨zc, zk⟩] ++ [⟨xc, mk⟩])) := HPu.out rfl (HAsc.out hd)
            have hd1 : (zc == xc) = false := by simpa using hd
            have hd2 : decide (zc = xc) = false := by simpa using hd
            clear HAg HPu HSk HB HAsc HAc hz hd
            go_wp2_with fail
            go_quiet (fail)
            obtain ⟨v5, w5, hrun, hN5, _⟩ := NewC.app1 (HN4.out.on ((Touch.refl _ _).drewC nq)) ⟨xc, mk⟩ (by simp; omega)
            rw [show ((w2.alloc (ckO ⟨xc, mk⟩)).drewN nq).heap.size = w2.heap.size + 1 from by show (w2.alloc (ckO ⟨xc, mk⟩)).heap.size = _; rw [World.size_alloc]] at hrun
            have hrun2 : (Builtin.append_ #[22, 22] 22 #[.slice (some ⟨g, 0, none⟩) (p.length + 1) cap3, .slice (some ⟨w2.heap.size + 1, 0, none⟩) 1 1]).run Tryz.prog (((w2.alloc (ckO ⟨xc, mk⟩)).alloc (ckO ⟨xc, mk⟩)).drewN nq) = .ok v5 w5 := hrun
            have HQ : Hid (NewC w1 w5 v5 (p ++ [⟨zc, zk⟩] ++ [⟨xc, mk⟩]) ∧ ClnC s (j + 1) (p ++ [⟨zc, zk⟩] ++ [⟨xc, mk⟩])) := ⟨hN5, HP.out⟩
            have hl5 : (p ++ [(⟨zc, zk⟩ : Ck)] ++ [(⟨xc, mk⟩ : Ck)]).length = p.length + 2 := by simp
            obtain ⟨ao5, cap5, hv5, _⟩ := hN5.shape
            rw [hl5] at hv5
            subst hv5
            clear hN5 hrun HN4 HP
            go_wp2_with (at_builtin; refine wpList_append_runC rfl _ _ rfl _ _ _ rfl rfl hrun2 ?_)
            go_roundg (s.length - (j + 1))
            case measure => omega
            case rel => exact ⟨j + 1, _, by omega, by go_num, HQ.out, by rw [hl5]; omega, ⟨_, _, by rw [hl5]⟩⟩
    · have hjl : j = s.length := by omega
      subst hjl
      have HQ : Hid (NewC w wr (.slice ao3 out.length cap3) out ∧ VForm out (atC l) ∧ out.length ≤ l.length) := by
        refine ⟨H.out.1.since HW.out.1, ?_, by have := HLn.out; omega⟩
        have := H.out.2.1
        rw [List.take_length] at this
        exact this.of HW.out.2.2
      clear H
      go_wp2_with fail
      refine bodyPost_ret (v := .slice ao3 out.length cap3) (by simp [results, Tryz.results8, go_sem]) rfl ?_
      exact ⟨_, _, rfl, HQ.out⟩
end Go.Proofs.YtdblfabbmpdoiaaGreat
