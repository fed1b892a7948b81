/- The contract of the document's Clean of clocks. -/
import Derived.Test.YtdblfabbmpdoiaaGreatPart11
import Derived.Deep.DeepCutAuto
import Derived.Deep.RegionHeld3
namespace Go.Proofs.YtdblfabbmpdoiaaGreat
open Go.RowKit Go.Maps
set_option linter.unusedVariables false
set_option linter.unusedSimpArgs false
set_option maxRecDepth 100000

theorem insC_len (ss : List Ck) (x : Ck) (p : Nat) (hp : p ≤ ss.length) : (ss.take p ++ x :: ss.drop p).length = ss.length + 1 := by simp; omega
theorem shiftC_set (ss : List Ck) (y : Ck) (k : Nat) (h0 : 0 < k) (hk : k ≤ ss.length) (hk1 : k - 1 < ss.length) : (ss.take k ++ y :: ss.drop k).set k ss[k - 1] = ss.take (k - 1) ++ ss[k - 1] :: ss.drop (k - 1) := by
  have hl : (ss.take k).length = k := by simp; omega
  rw [List.set_append_right _ _ (by omega), hl, Nat.sub_self, List.set_cons_zero]
  have e1 : ss.take k = ss.take (k - 1) ++ [ss[k - 1]] := by
    have := List.take_succ_eq_append_getElem hk1
    rwa [show k - 1 + 1 = k from by omega] at this
  have e2 : ss.drop (k - 1) = ss[k - 1] :: ss.drop k := by
    have := List.drop_eq_getElem_cons hk1
    rwa [show k - 1 + 1 = k from by omega] at this
  rw [e2, e1, List.append_assoc]
  rfl
theorem putC_set (ss : List Ck) (y x : Ck) (k : Nat) (hk : k ≤ ss.length) : (ss.take k ++ y :: ss.drop k).set k x = ss.take k ++ x :: ss.drop k := by
  have hl : (ss.take k).length = k := by simp; omega
  rw [List.set_append_right _ _ (by omega), hl, Nat.sub_self, List.set_cons_zero]
theorem NewC.put {W w : World} {g cap : Nat} {l : List Ck} (h : NewC W w (.slice (some ⟨g, 0, none⟩) l.length cap) l) (j : Nat) (hj : j < l.length) (r : Ck) :
    NewC W ((w.setCell ⟨g, j * 2, none⟩ (.int .u64 r.c)).setCell ⟨g, j * 2 + 1, none⟩ (.int .u64 r.k)) (.slice (some ⟨g, 0, none⟩) l.length cap) (l.set j r) := by
  have h1 := OwnC.set h rfl (j * 2) (by omega) (.int .u64 r.c) rfl
  have h2 := OwnC.set h1 rfl (j * 2 + 1) (by omega) (.int .u64 r.k) rfl
  rw [cellsC_set l j hj r] at h2
  unfold NewC
  rw [List.length_set]; exact h2
/-- Of the first i of l each client that l tells of is there. -/
structure Ins7 (l : List Ck) (i : Nat) (ss : List Ck) : Prop where
  asc : ss.Pairwise (fun a b => a.c < b.c)
  is : ∀ y ∈ ss, y.k = atC l y.c ∧ atC l y.c ≠ 0
  all : ∀ x ∈ l.take i, atC l x.c ≠ 0 → ∃ y ∈ ss, y.c = x.c
theorem Ins7.start (l : List Ck) : Ins7 l 0 [] := ⟨List.Pairwise.nil, (fun y hy => nomatch hy), (fun x hx => nomatch hx)⟩
theorem Ins7.done {l ss : List Ck} (h : Ins7 l l.length ss) : VForm ss (atC l) := by
  have ok : ∀ y ∈ ss, y.ok = true := fun y hy => by
    obtain ⟨h1, h2⟩ := h.is y hy
    have hp := atC_pos l y.c
    refine Ck.ok_iff.2 ⟨?_, by omega⟩
    exact Decidable.byContradiction fun q => h2 (atC_wrong q)
  refine ⟨h.asc, ok, fun c => ?_⟩
  by_cases hx : ∃ y ∈ ss, y.c = c
  · obtain ⟨y, hy, rfl⟩ := hx
    rw [atC_mem h.asc ok hy, (h.is y hy).1]
  · rw [atC_none fun y hy e => hx ⟨y, hy, e⟩]
    refine Decidable.byContradiction fun q => ?_
    have q' : atC l c ≠ 0 := fun e => q e.symm
    have : ∃ x ∈ l, x.c = c := Decidable.byContradiction fun g => q' (atC_none fun x hx' e => g ⟨x, hx', e⟩)
    obtain ⟨x, hx', rfl⟩ := this
    obtain ⟨y, hy, e⟩ := h.all x (by rw [List.take_length]; exact hx') q'
    exact hx ⟨y, hy, e⟩
theorem Ins7.skip {l ss : List Ck} {i : Nat} (h : Ins7 l i ss) (hi : i < l.length) (hx : atC l l[i].c = 0 ∨ ∃ y ∈ ss, y.c = l[i].c) : Ins7 l (i + 1) ss := by
  refine ⟨h.asc, h.is, fun x hx' hn => ?_⟩
  rw [List.take_succ_eq_append_getElem hi] at hx'
  rcases List.mem_append.1 hx' with q | q
  · exact h.all x q hn
  · rw [List.mem_singleton] at q; subst q
    rcases hx with e | e
    · exact absurd e hn
    · exact e
theorem Ins7.ins {l ss : List Ck} {i p : Nat} (h : Ins7 l i ss) (hi : i < l.length) (hn : atC l l[i].c ≠ 0) (hp : p ≤ ss.length) (h1 : ∀ j (hj : j < ss.length), j < p → ss[j].c < l[i].c) (h2 : ∀ j (hj : j < ss.length), p ≤ j → l[i].c < ss[j].c) : Ins7 l (i + 1) (ss.take p ++ ⟨l[i].c, atC l l[i].c⟩ :: ss.drop p) := by
  have ha := h.asc
  rw [← List.take_append_drop p ss, List.pairwise_append] at ha
  refine ⟨?_, fun y hy => ?_, fun x hx' hn' => ?_⟩
  · rw [List.pairwise_append]
    refine ⟨ha.1, List.pairwise_cons.2 ⟨fun y hy => ?_, ha.2.1⟩, fun y hy z hz => ?_⟩
    · obtain ⟨j, hj, rfl⟩ := List.getElem_of_mem hy
      rw [List.getElem_drop]
      exact h2 _ (by simp at hj; omega) (by omega)
    · rcases List.mem_cons.1 hz with rfl | hz
      · obtain ⟨j, hj, rfl⟩ := List.getElem_of_mem hy
        rw [List.getElem_take]
        simp at hj
        exact h1 _ (by omega) (by omega)
      · exact ha.2.2 y hy z hz
  · rcases List.mem_append.1 hy with q | q
    · exact h.is y (List.mem_of_mem_take q)
    · rcases List.mem_cons.1 q with rfl | q
      · exact ⟨rfl, hn⟩
      · exact h.is y (List.mem_of_mem_drop q)
  · rw [List.take_succ_eq_append_getElem hi] at hx'
    rcases List.mem_append.1 hx' with q | q
    · obtain ⟨y, hy, e⟩ := h.all x q hn'
      rw [← List.take_append_drop p ss] at hy
      rcases List.mem_append.1 hy with r | r
      · exact ⟨y, List.mem_append_left _ r, e⟩
      · exact ⟨y, List.mem_append_right _ (List.mem_cons_of_mem _ r), e⟩
    · rw [List.mem_singleton] at q; subst q
      exact ⟨_, List.mem_append_right _ List.mem_cons_self, rfl⟩

set_option maxHeartbeats 8000000 in
theorem rvclean_any (l : List Ck) (v : Value) (w : World) (hs : SlC w v l) (hll : l.length ≤ 1073741824) :
    Calls Tryz.prog 16 #[v] w fun e w' => ∃ v' out, e = .returned v' ∧ NewC w w' v' out ∧ VForm out (atC l) ∧ out.length ≤ l.length := by
  have HL : Hid (SlC w v l) := hs
  obtain ⟨ao, cap, rfl, _⟩ := hs
  go_enter Tryz.func16, Tryz.ntmps16
  go_wp2_with fail
  go_loopg [3, 4] l.length (fun g s3 s4 wx => ∃ (i : Nat) (ss : List Ck), i + g = l.length ∧ s4 = .int .i64 (i : Int) ∧ Hid (NewC w wx s3 ss ∧ Ins7 l i ss) ∧ ss.length ≤ i ∧ ∃ ao cap, s3 = .slice ao ss.length cap)
  case atStart => exact ⟨0, [], by omega, rfl, ⟨NewC.nil w w (Touch.refl _ _), Ins7.start l⟩, Nat.le_refl _, ⟨_, _, rfl⟩⟩
  case round =>
    obtain ⟨i, ss, hig, rfl, H, hsi, ⟨ao3, cap3, rfl⟩⟩ := hrel
    obtain ⟨wo, hwo⟩ : ∃ wo, wo = wr := ⟨_, rfl⟩
    subst hwo
    by_cases hlt : i < l.length
    · have hne : l ≠ [] := by rintro rfl; simp at hlt
      obtain ⟨b, o, cp, e, _, _, hb, hrow⟩ := (HL.out.touch H.out.1.touch).row hne
      obtain ⟨rfl, _, rfl⟩ : ao = some ⟨b, o, none⟩ ∧ True ∧ cap = cp := by simpa using e
      have HZ0 : Hid (∀ W, Touch (fun _ => False) w W → W.cell? ⟨b, o + i * 2, none⟩ = some (.int .u64 l[i].c) ∧ W.cell? ⟨b, o + i * 2 + 1, none⟩ = some (.int .u64 l[i].k)) := fun W t => by
        obtain ⟨b', o', cp', e', _, _, hb', hrow'⟩ := (HL.out.touch t).row hne
        simp only [Value.slice.injEq, Option.some.injEq, Addr.mk.injEq] at e'
        obtain ⟨⟨rfl, rfl, _⟩, _, _⟩ := e'
        exact hrow' i hlt
      have HAt : Hid (∀ W, Touch (fun _ => False) w W → Calls Tryz.prog 36 #[.slice (some ⟨b, o, none⟩) l.length cap, .int .u64 l[i].c] W fun e w' => e = .returned (.int .u64 (atC l l[i].c)) ∧ w' = W) := fun W t => rat_any l _ _ W (HL.out.touch t) hll
      have HSk : Hid ((atC l l[i].c = 0 ∨ ∃ y ∈ ss, y.c = l[i].c) → Ins7 l (i + 1) ss) := fun q => H.out.2.skip hlt q
      have HIn : Hid (∀ p, atC l l[i].c ≠ 0 → p ≤ ss.length → (∀ j (hj : j < ss.length), j < p → ss[j].c < l[i].c) → (∀ j (hj : j < ss.length), p ≤ j → l[i].c < ss[j].c) → Ins7 l (i + 1) (ss.take p ++ ⟨l[i].c, atC l l[i].c⟩ :: ss.drop p)) := fun p a1 a2 a3 a4 => H.out.2.ins hlt a1 a2 a3 a4
      have HAs : Hid (∀ j k (hj : j < ss.length) (hk : k < ss.length), j ≤ k → ss[j].c ≤ ss[k].c) := fun j k hj hk hjk => by
        rcases Nat.lt_or_ge j k with g | g
        · exact Int.le_of_lt (List.pairwise_iff_getElem.1 H.out.2.asc j k hj hk g)
        · obtain rfl : j = k := by omega
          exact Int.le_refl _
      generalize atC l l[i].c = A at *
      generalize l[i] = x at *
      obtain ⟨xc, xk⟩ := x
      simp only at HZ0 HAt HSk HIn
      have HN0 : Hid (NewC w wo (.slice ao3 ss.length cap3) ss) := H.out.1
      have hssl : ss.length ≤ 1073741824 := by omega
      have i4 : (i : Int) < (l.length : Int) := by omega
      have i5 : (0 : Int) ≤ (i : Int) := by omega
      clear hrow e hne H
      go_wp2_with fail
      go_loopg [5] ss.length (fun g s5 wx => ∃ p q : Nat, p + g = ss.length ∧ s5 = .int .i64 (p : Int) ∧ wx = wo.drewN q ∧ Hid (∀ j (hj : j < ss.length), j < p → ss[j].c < xc))
      case atStart => exact ⟨0, 0, by omega, rfl, rfl, fun j _ h => by omega⟩
      case round =>
        obtain ⟨p, q, hpg, rfl, rfl, HI⟩ := hrel
        have tq : Touch (fun _ => False) wo (wo.drewN q) := ⟨rfl, rfl, rfl, Nat.le_refl _, fun _ _ _ => rfl⟩
        have hx0 := (HZ0.out _ (HN0.out.touch.trans tq)).1
        have hx1 := (HZ0.out _ HN0.out.touch).1
        by_cases hps : p < ss.length
        · have hne2 : ss ≠ [] := by rintro rfl; simp at hps
          obtain ⟨b3, o3, cp3, e3, _, _, hb3, hrow3⟩ := HN0.out.sl.row hne2
          obtain ⟨rfl, _, rfl⟩ : ao3 = some ⟨b3, o3, none⟩ ∧ True ∧ cap3 = cp3 := by simpa using e3
          obtain ⟨z0, z1⟩ := hrow3 p hps
          have i2 : (p : Int) < (ss.length : Int) := by omega
          have i3 : (0 : Int) ≤ (p : Int) := by omega
          have HSp : Hid (ss[p].c < xc → ∀ j (hj : j < ss.length), j < p + 1 → ss[j].c < xc) := fun hz j hj hjp => by
            have := HAs.out j p hj hps (by omega)
            omega
          have HSe : Hid (ss[p].c = xc → ∃ y ∈ ss, y.c = xc) := fun h => ⟨ss[p], List.getElem_mem hps, h⟩
          have HSg : Hid (xc < ss[p].c → ∀ j (hj : j < ss.length), p ≤ j → xc < ss[j].c) := fun hz j hj hpj => by
            have := HAs.out p j hps hj hpj
            omega
          clear hrow3 e3 hne2 HAs
          generalize ss[p] = z at *
          obtain ⟨zc, zk⟩ := z
          simp only at z0 z1 HSp HSe HSg
          by_cases hz : zc < xc
          · have HS2 : Hid (∀ j (hj : j < ss.length), j < p + 1 → ss[j].c < xc) := HSp.out hz
            clear HSp HSe HSg HIn HSk HAt HZ0
            go_wp2_with fail
            go_quiet (fail)
            go_wp2_with fail
            go_roundg (ss.length - (p + 1))
            case measure => omega
            case rel => exact ⟨p + 1, _, by omega, by go_num, rfl, HS2.out⟩
          · have hz2 : decide (zc < xc) = false := by simpa using hz
            go_wp2_with fail
            go_quiet (fail)
            obtain ⟨q1, rfl⟩ : ∃ q1, q1 = nq := ⟨_, rfl⟩
            have HA0 : Hid (∀ m, Calls Tryz.prog 36 #[.slice (some ⟨b, o, none⟩) l.length cap, .int .u64 xc] (wo.drewN m) fun e w' => e = .returned (.int .u64 A) ∧ w' = wo.drewN m) := fun m => HAt.out _ (HN0.out.touch.trans ⟨rfl, rfl, rfl, Nat.le_refl _, fun _ _ _ => rfl⟩)
            by_cases hA : A = 0
            · have HK2 : Hid (Ins7 l (i + 1) ss) := HSk.out (.inl hA)
              subst hA
              clear HSp HSe HSg HIn HSk HAt HZ0
              go_wp2_with fail
              go_quiet (exact (HA0.out _).mono fun e w'' h => ⟨h.1, _, h.2⟩)
              go_wp2_with fail
              go_roundg (l.length - (i + 1))
              case measure => omega
              case rel => exact ⟨i + 1, _, by omega, by go_num, ⟨HN0.out.on ⟨rfl, rfl, rfl, Nat.le_refl _, fun _ _ _ => rfl⟩, HK2.out⟩, by omega, ⟨_, _, rfl⟩⟩
            · have hA1 : (A == 0) = false := by simpa using hA
              have hA2 : decide (A = 0) = false := by simpa using hA
              by_cases he : zc = xc
              · have HK2 : Hid (Ins7 l (i + 1) ss) := HSk.out (.inr (HSe.out he))
                subst he
                clear HSp HSe HSg HIn HSk HAt HZ0
                go_wp2_with fail
                go_quiet (exact (HA0.out _).mono fun e w'' h => ⟨h.1, _, h.2⟩)
                go_wp2_with fail
                go_roundg (l.length - (i + 1))
                case measure => omega
                case rel => exact ⟨i + 1, _, by omega, by go_num, ⟨HN0.out.on ⟨rfl, rfl, rfl, Nat.le_refl _, fun _ _ _ => rfl⟩, HK2.out⟩, by omega, ⟨_, _, rfl⟩⟩
              · have he1 : (zc == xc) = false := by simpa using he
                have he2 : decide (zc = xc) = false := by simpa using he
                have HIns : Hid (Ins7 l (i + 1) (ss.take p ++ ⟨xc, A⟩ :: ss.drop p)) := HIn.out p hA (by omega) HI.out (HSg.out (by omega))
                clear HSp HSe HSg HIn HSk he hz
                go_wp2_with fail
                go_quiet (exact (HA0.out _).mono fun e w'' h => ⟨h.1, _, h.2⟩)
                clear z0 z1 hx0 hx1 HA0 hA hA1 hA2 he1 he2 hz2
                generalize hqs : q + q1 + nq = qs
                have t4 : Touch (fun _ => False) wo (wo.drewN qs) := ⟨rfl, rfl, rfl, Nat.le_refl _, fun _ _ _ => rfl⟩
                obtain ⟨v5, w5, hrun, hN5, hgr⟩ := NewC.app1 (HN0.out.on t4) ⟨0, 0⟩ hssl
                rw [show (wo.drewN qs).heap.size = wo.heap.size from rfl, show (wo.drewN qs).alloc (ckO ⟨0, 0⟩) = (wo.alloc (ckO ⟨0, 0⟩)).drewN qs from rfl, ← hqs] at hrun
                have hrun2 := hrun
                have HA : Hid (NewC w w5 v5 (ss.take ss.length ++ ⟨0, 0⟩ :: ss.drop ss.length)) := by rw [List.take_length, List.drop_length]; exact hN5
                have hl5 : (ss ++ [(⟨0, 0⟩ : Ck)]).length = ss.length + 1 := by simp
                obtain ⟨ao5, cap5, hv5, hg5, hc5, hm5⟩ := hN5.shape
                rw [hl5] at hv5 hg5 hc5
                obtain ⟨g5, rfl⟩ := hg5 (by omega)
                subst hv5
                clear hN5 hrun t4 hgr
                clear hqs qs
                go_wp2_with (at_builtin; refine wpList_append_runC rfl _ _ rfl _ _ _ rfl rfl hrun2 ?_)
                clear hrun2
                go_loopg [6] (ss.length - p) (fun g s6 wx => ∃ (k : Nat) (y : Ck), k ≤ p + g ∧ p ≤ k ∧ k ≤ ss.length ∧ s6 = .int .i64 (k : Int) ∧ Hid (NewC w wx (.slice (some ⟨g5, 0, none⟩) (ss.length + 1) cap5) (ss.take k ++ y :: ss.drop k)))
                case atStart => exact ⟨ss.length, ⟨0, 0⟩, by omega, by omega, Nat.le_refl _, by go_num, HA.out⟩
                case round =>
                  obtain ⟨k, y, hkg, hlk, hks, rfl, HN⟩ := hrel
                  obtain ⟨wy, hwy⟩ : ∃ wy, wy = wr := ⟨_, rfl⟩
                  subst hwy
                  have hlen := insC_len ss y k hks
                  have HNe : Hid (NewC w wy (.slice (some ⟨g5, 0, none⟩) (ss.take k ++ y :: ss.drop k).length cap5) (ss.take k ++ y :: ss.drop k)) := by rw [hlen]; exact HN.out
                  have hnn : ss.take k ++ y :: ss.drop k ≠ [] := by simp
                  obtain ⟨b6, o6, cp6, e6, _, _, hb6, hrow6⟩ := HNe.out.sl.row hnn
                  simp only [Value.slice.injEq, Option.some.injEq, Addr.mk.injEq] at e6
                  obtain ⟨⟨rfl, rfl, _⟩, _, rfl⟩ := e6
                  have hfz : ∀ q, wy.frozen? ⟨g5, q, none⟩ = false := fun q => HNe.out.free rfl (by rw [hlen]; omega) q
                  by_cases hkl : p < k
                  · obtain ⟨kk, rfl⟩ : ∃ kk, k = kk + 1 := ⟨k - 1, by omega⟩
                    have hkk : kk < ss.length := by omega
                    have hel : ∀ hj, (ss.take (kk + 1) ++ y :: ss.drop (kk + 1))[kk]'hj = ss[kk] := fun hj => by
                      rw [List.getElem_append_left (by simp; omega), List.getElem_take]
                    have hz := hrow6 kk (by rw [hlen]; omega)
                    rw [hel] at hz
                    have hz2 := hrow6 (kk + 1) (by rw [hlen]; omega)
                    have HSt : Hid (NewC w ((wy.setCell ⟨g5, (kk + 1) * 2, none⟩ (.int .u64 ss[kk].c)).setCell ⟨g5, (kk + 1) * 2 + 1, none⟩ (.int .u64 ss[kk].k)) (.slice (some ⟨g5, 0, none⟩) (ss.length + 1) cap5) (ss.take kk ++ ss[kk] :: ss.drop kk)) := by
                      have := HNe.out.put (kk + 1) (by rw [hlen]; omega) ss[kk]
                      have hsh := shiftC_set ss y (kk + 1) (by omega) hks (by omega)
                      simp only [Nat.add_sub_cancel] at hsh
                      rw [hsh, hlen] at this
                      exact this
                    simp only [Nat.zero_add] at hz hz2
                    obtain ⟨c0, c1⟩ := hz
                    obtain ⟨d0, d1⟩ := hz2
                    generalize (ss.take (kk + 1) ++ y :: ss.drop (kk + 1))[kk + 1] = y2 at *
                    generalize ss[kk] = zz at *
                    obtain ⟨zzc, zzk⟩ := zz
                    have f0 := hfz ((kk + 1) * 2)
                    have f1 := hfz ((kk + 1) * 2 + 1)
                    have i1 : IntKind.i64.wrap (kk : Int) = (kk : Int) := by simp [IntKind.wrap, IntKind.bits, IntKind.signed]; omega
                    simp only at c0 c1
                    clear hrow6 hel hnn hlen HNe HN hfz HIns HAt HZ0
                    go_wp2_with fail
                    go_roundg (kk - p)
                    case measure => omega
                    case rel => exact ⟨kk, _, by omega, by omega, by omega, by go_num, HSt.out⟩
                  · have hkk : k = p := by omega
                    subst hkk
                    have hz2 := hrow6 k (by rw [hlen]; omega)
                    obtain ⟨c0, c1⟩ := HZ0.out wy HN.out.touch
                    have HSt : Hid (∀ n, NewC w (((wy.drewN n).setCell ⟨g5, k * 2, none⟩ (.int .u64 xc)).setCell ⟨g5, k * 2 + 1, none⟩ (.int .u64 A)) (.slice (some ⟨g5, 0, none⟩) (ss.length + 1) cap5) (ss.take k ++ ⟨xc, A⟩ :: ss.drop k)) := fun n => by
                      have := NewC.put (HNe.out.on (show Touch (fun _ => False) wy (wy.drewN n) from ⟨rfl, rfl, rfl, Nat.le_refl _, fun _ _ _ => rfl⟩)) k (by rw [hlen]; omega) ⟨xc, A⟩
                      rw [putC_set ss y ⟨xc, A⟩ k hks, hlen] at this
                      exact this
                    simp only [Nat.zero_add] at hz2
                    obtain ⟨d0, d1⟩ := hz2
                    generalize (ss.take k ++ y :: ss.drop k)[k] = y2 at *
                    have f0 := hfz (k * 2)
                    have f1 := hfz (k * 2 + 1)
                    have hlen2 := insC_len ss ⟨xc, A⟩ k hks
                    have HLn : Hid ((ss.take k ++ (⟨xc, A⟩ : Ck) :: ss.drop k).length = ss.length + 1) := hlen2
                    have HTw : Hid (Touch (fun _ => False) w wy.drew) := HN.out.touch.trans ⟨rfl, rfl, rfl, Nat.le_refl _, fun _ _ _ => rfl⟩
                    have HS0 := HSt.out 1
                    have HTs := HS0.touch
                    have hcs := (HZ0.out _ HTs).1
                    have HTs2 : Hid (Touch (fun _ => False) w ((wy.drew.setCell ⟨g5, k * 2, none⟩ (.int .u64 xc)).setCell ⟨g5, k * 2 + 1, none⟩ (.int .u64 A))) := HTs
                    have HCs : Hid (((wy.drew.setCell ⟨g5, k * 2, none⟩ (.int .u64 xc)).setCell ⟨g5, k * 2 + 1, none⟩ (.int .u64 A)).cell? ⟨b, o + i * 2, none⟩ = some (.int .u64 xc)) := hcs
                    have HSd : Hid (NewC w ((wy.drew.setCell ⟨g5, k * 2, none⟩ (.int .u64 xc)).setCell ⟨g5, k * 2 + 1, none⟩ (.int .u64 A)) (.slice (some ⟨g5, 0, none⟩) (ss.length + 1) cap5) (ss.take k ++ ⟨xc, A⟩ :: ss.drop k)) := HS0
                    have i6 : (k : Int) < (ss.length : Int) + 1 := by omega
                    have i7 : (0 : Int) ≤ (k : Int) := by omega
                    have cd : wy.drew.cell? ⟨b, o + i * 2, none⟩ = some (.int .u64 xc) := c0
                    clear hrow6 hnn hlen HNe HN hfz hlen2 HZ0 HSt HS0 HTs hcs
                    go_wp2_with fail
                    refine wp_region_noPanic ?_
                    refine wp_region_held_drew (S := fun W : World => W.cell? ⟨b, o + i * 2, none⟩ = some (.int .u64 xc) ∧ Hid (Touch (fun _ => False) w W)) (by kernel_rfl) ⟨cd, HTw⟩ (fun hHeld => ?_)
                    refine wpAnyH_take (i := 0) (oi := { dst := some 79, op := Op.move (Operand.tmp 3), type := 22, pos := "quireref7.go:36", after := #[], guard := none }) (v := (.slice (some ⟨g5, 0, none⟩) (ss.length + 1) cap5)) rfl (by kernel_rfl) (by kernel_rfl) (by kernel_rfl) (fun _ _ _ h => h) (Or.inl ⟨by rfl, ?_⟩) hHeld ?_
                    · intro w' hSw; (try dsimp only at hSw); go_simp
                    simp only [Act.put, List.setIfInBounds_toArray, List.set_cons_zero, List.set_cons_succ]
                    refine wpAnyH_take (i := 1) (oi := { dst := some 80, op := Op.move (Operand.tmp 5), type := 3, pos := "quireref7.go:36", after := #[], guard := none }) (v := (.int .i64 (k : Int))) rfl (by kernel_rfl) (by kernel_rfl) (by kernel_rfl) (fun _ _ _ h => h) (Or.inl ⟨by rfl, ?_⟩) hHeld ?_
                    · intro w' hSw; (try dsimp only at hSw); go_simp
                    simp only [Act.put, List.setIfInBounds_toArray, List.set_cons_zero, List.set_cons_succ]
                    refine wpAnyH_take (i := 2) (oi := { dst := some 81, op := Op.move (Operand.tmp 0), type := 22, pos := "quireref7.go:36", after := #[], guard := none }) (v := (.slice (some ⟨b, o, none⟩) l.length cap)) rfl (by kernel_rfl) (by kernel_rfl) (by kernel_rfl) (fun _ _ _ h => h) (Or.inl ⟨by rfl, ?_⟩) hHeld ?_
                    · intro w' hSw; (try dsimp only at hSw); go_simp
                    simp only [Act.put, List.setIfInBounds_toArray, List.set_cons_zero, List.set_cons_succ]
                    refine wpAnyH_take (i := 3) (oi := { dst := some 82, op := Op.move (Operand.tmp 4), type := 3, pos := "quireref7.go:36", after := #[], guard := none }) (v := (.int .i64 (i : Int))) rfl (by kernel_rfl) (by kernel_rfl) (by kernel_rfl) (fun _ _ _ h => h) (Or.inl ⟨by rfl, ?_⟩) hHeld ?_
                    · intro w' hSw; (try dsimp only at hSw); go_simp
                    simp only [Act.put, List.setIfInBounds_toArray, List.set_cons_zero, List.set_cons_succ]
                    refine wpAnyH_take (i := 4) (oi := { dst := some 83, op := Op.indexAddr 22 (Operand.tmp 81) (Operand.tmp 82), type := 0, pos := "quireref7.go:36", after := #[{ on := 2, ground := Ground.data }, { on := 3, ground := Ground.data }], guard := none }) (v := (.pointer (some ⟨b, o + i * 2, none⟩))) rfl (by kernel_rfl) (by kernel_rfl) (by kernel_rfl) (fun _ _ _ h => h) (Or.inl ⟨by rfl, ?_⟩) hHeld ?_
                    · intro w' hSw; (try dsimp only at hSw); go_simp
                    simp only [Act.put, List.setIfInBounds_toArray, List.set_cons_zero, List.set_cons_succ]
                    refine wpAnyH_take (i := 5) (oi := { dst := some 84, op := Op.fieldAddr 50 (Operand.tmp 83) 0, type := 0, pos := "quireref7.go:36", after := #[{ on := 4, ground := Ground.data }], guard := none }) (v := (.pointer (some ⟨b, o + i * 2, none⟩))) rfl (by kernel_rfl) (by kernel_rfl) (by kernel_rfl) (fun _ _ _ h => h) (Or.inl ⟨by rfl, ?_⟩) hHeld ?_
                    · intro w' hSw; (try dsimp only at hSw); go_simp
                    simp only [Act.put, List.setIfInBounds_toArray, List.set_cons_zero, List.set_cons_succ]
                    refine wpAnyH_take (i := 6) (oi := { dst := some 85, op := Op.load 48 (Operand.tmp 84), type := 48, pos := "quireref7.go:36", after := #[{ on := 5, ground := Ground.data }], guard := none }) (v := (.int .u64 xc)) rfl (by kernel_rfl) (by kernel_rfl) (by kernel_rfl) (fun _ _ _ h => h) (Or.inl ⟨by rfl, ?_⟩) hHeld ?_
                    · intro w' hSw; (try dsimp only at hSw); go_simp
                    simp only [Act.put, List.setIfInBounds_toArray, List.set_cons_zero, List.set_cons_succ]
                    refine wpAnyH_take (i := 7) (oi := { dst := some 86, op := Op.move (Operand.tmp 0), type := 22, pos := "quireref7.go:36", after := #[], guard := none }) (v := (.slice (some ⟨b, o, none⟩) l.length cap)) rfl (by kernel_rfl) (by kernel_rfl) (by kernel_rfl) (fun _ _ _ h => h) (Or.inl ⟨by rfl, ?_⟩) hHeld ?_
                    · intro w' hSw; (try dsimp only at hSw); go_simp
                    simp only [Act.put, List.setIfInBounds_toArray, List.set_cons_zero, List.set_cons_succ]
                    refine wpAnyH_take (i := 8) (oi := { dst := some 87, op := Op.move (Operand.tmp 0), type := 22, pos := "quireref7.go:36", after := #[], guard := none }) (v := (.slice (some ⟨b, o, none⟩) l.length cap)) rfl (by kernel_rfl) (by kernel_rfl) (by kernel_rfl) (fun _ _ _ h => h) (Or.inl ⟨by rfl, ?_⟩) hHeld ?_
                    · intro w' hSw; (try dsimp only at hSw); go_simp
                    simp only [Act.put, List.setIfInBounds_toArray, List.set_cons_zero, List.set_cons_succ]
                    refine wpAnyH_take (i := 9) (oi := { dst := some 88, op := Op.move (Operand.tmp 4), type := 3, pos := "quireref7.go:36", after := #[], guard := none }) (v := (.int .i64 (i : Int))) rfl (by kernel_rfl) (by kernel_rfl) (by kernel_rfl) (fun _ _ _ h => h) (Or.inl ⟨by rfl, ?_⟩) hHeld ?_
                    · intro w' hSw; (try dsimp only at hSw); go_simp
                    simp only [Act.put, List.setIfInBounds_toArray, List.set_cons_zero, List.set_cons_succ]
                    refine wpAnyH_take (i := 10) (oi := { dst := some 89, op := Op.indexAddr 22 (Operand.tmp 87) (Operand.tmp 88), type := 0, pos := "quireref7.go:36", after := #[{ on := 8, ground := Ground.data }, { on := 9, ground := Ground.data }], guard := none }) (v := (.pointer (some ⟨b, o + i * 2, none⟩))) rfl (by kernel_rfl) (by kernel_rfl) (by kernel_rfl) (fun _ _ _ h => h) (Or.inl ⟨by rfl, ?_⟩) hHeld ?_
                    · intro w' hSw; (try dsimp only at hSw); go_simp
                    simp only [Act.put, List.setIfInBounds_toArray, List.set_cons_zero, List.set_cons_succ]
                    refine wpAnyH_take (i := 11) (oi := { dst := some 90, op := Op.fieldAddr 50 (Operand.tmp 89) 0, type := 0, pos := "quireref7.go:36", after := #[{ on := 10, ground := Ground.data }], guard := none }) (v := (.pointer (some ⟨b, o + i * 2, none⟩))) rfl (by kernel_rfl) (by kernel_rfl) (by kernel_rfl) (fun _ _ _ h => h) (Or.inl ⟨by rfl, ?_⟩) hHeld ?_
                    · intro w' hSw; (try dsimp only at hSw); go_simp
                    simp only [Act.put, List.setIfInBounds_toArray, List.set_cons_zero, List.set_cons_succ]
                    refine wpAnyH_take (i := 12) (oi := { dst := some 91, op := Op.load 48 (Operand.tmp 90), type := 48, pos := "quireref7.go:36", after := #[{ on := 11, ground := Ground.data }], guard := none }) (v := (.int .u64 xc)) rfl (by kernel_rfl) (by kernel_rfl) (by kernel_rfl) (fun _ _ _ h => h) (Or.inl ⟨by rfl, ?_⟩) hHeld ?_
                    · intro w' hSw; (try dsimp only at hSw); go_simp
                    simp only [Act.put, List.setIfInBounds_toArray, List.set_cons_zero, List.set_cons_succ]
                    refine wpAnyH_ready (rs := [13]) (by kernel_rfl) (by simp) ?_
                    refine AllReadyH.cons (o := { dst := some 92, op := Op.call { callee := Callee.value (Operand.func 36), args := #[Operand.tmp 86, Operand.tmp 91], argTypes := #[22, 48] }, type := 48, pos := "quireref7.go:36", after := #[{ on := 7, ground := Ground.data }, { on := 12, ground := Ground.data }], guard := none }) rfl (fun K hK => ?_) AllReadyH.nil
                    go_simp
                    refine (HAt.out _ hHeld.2.out).mono ?_
                    rintro e w' ⟨rfl, rfl⟩
                    refine hK.out _ _ hHeld (fun hHeld => ?_)
                    clear hK K
                    try dsimp only
                    refine wpAnyH_take (i := 14) (oi := { dst := some 93, op := Op.build 50 #[(0, Operand.tmp 85), (1, Operand.tmp 92)], type := 50, pos := "quireref7.go:36", after := #[{ on := 6, ground := Ground.data }, { on := 13, ground := Ground.data }], guard := none }) (v := (.agg #[.int .u64 xc, .int .u64 A])) rfl (by kernel_rfl) (by kernel_rfl) (by kernel_rfl) (fun _ _ _ h => h) (Or.inl ⟨by rfl, ?_⟩) hHeld ?_
                    · intro w' hSw; (try dsimp only at hSw); go_simp
                    simp only [Act.put, List.setIfInBounds_toArray, List.set_cons_zero, List.set_cons_succ]
                    refine wpAnyH_take (i := 15) (oi := { dst := some 94, op := Op.indexAddr 22 (Operand.tmp 79) (Operand.tmp 80), type := 0, pos := "quireref7.go:36", after := #[{ on := 0, ground := Ground.data }, { on := 1, ground := Ground.data }, { on := 0, ground := Ground.phase }, { on := 1, ground := Ground.phase }, { on := 2, ground := Ground.phase }, { on := 3, ground := Ground.phase }, { on := 4, ground := Ground.phase }, { on := 5, ground := Ground.phase }, { on := 6, ground := Ground.phase }, { on := 7, ground := Ground.phase }, { on := 8, ground := Ground.phase }, { on := 9, ground := Ground.phase }, { on := 10, ground := Ground.phase }, { on := 11, ground := Ground.phase }, { on := 12, ground := Ground.phase }, { on := 13, ground := Ground.phase }, { on := 14, ground := Ground.phase }], guard := none }) (v := (.pointer (some ⟨g5, k * 2, none⟩))) rfl (by kernel_rfl) (by kernel_rfl) (by kernel_rfl) (fun _ _ _ h => h) (Or.inl ⟨by rfl, ?_⟩) hHeld ?_
                    · intro w' hSw; (try dsimp only at hSw); go_simp
                    simp only [Act.put, List.setIfInBounds_toArray, List.set_cons_zero, List.set_cons_succ]
                    refine wpAnyH_ready (rs := [16]) (by kernel_rfl) (by simp) ?_
                    refine AllReadyH.cons (o := { dst := none, op := Op.store 50 (Operand.tmp 94) (Operand.tmp 93), type := 0, pos := "quireref7.go:36", after := #[{ on := 15, ground := Ground.data }, { on := 14, ground := Ground.data }, { on := 13, ground := Ground.chain }, { on := 0, ground := Ground.phase }, { on := 1, ground := Ground.phase }, { on := 2, ground := Ground.phase }, { on := 3, ground := Ground.phase }, { on := 4, ground := Ground.phase }, { on := 5, ground := Ground.phase }, { on := 6, ground := Ground.phase }, { on := 7, ground := Ground.phase }, { on := 8, ground := Ground.phase }, { on := 9, ground := Ground.phase }, { on := 10, ground := Ground.phase }, { on := 11, ground := Ground.phase }, { on := 12, ground := Ground.phase }, { on := 13, ground := Ground.phase }, { on := 14, ground := Ground.phase }], guard := none }) rfl (fun K hK => ?_) AllReadyH.nil
                    go_simp
                    refine hK.out _ _ ⟨HCs.out, HTs2⟩ (fun hHeld => ?_)
                    clear hK K
                    try dsimp only
                    refine wpAnyH_done (by kernel_rfl) ?_ _
                    clear hHeld
                    first | refine NoPanic.normal ?_ | skip
                    go_wp2_with fail
                    go_roundg (l.length - (i + 1))
                    case measure => omega
                    case rel => exact ⟨i + 1, _, by omega, by go_num, ⟨HSd.out, HIns.out⟩, by rw [HLn.out]; omega, ⟨_, _, by rw [HLn.out]⟩⟩
        · have HPe : Hid (p = ss.length) := by show p = ss.length; omega
          have hnp : ¬ (p : Int) < (ss.length : Int) := by omega
          have hnp2 : decide ((p : Int) < (ss.length : Int)) = false := by simpa using hnp
          go_wp2_with fail
          go_quiet (fail)
          obtain ⟨q1, rfl⟩ : ∃ q1, q1 = nq := ⟨_, rfl⟩
          have HA0 : Hid (∀ m, Calls Tryz.prog 36 #[.slice (some ⟨b, o, none⟩) l.length cap, .int .u64 xc] (wo.drewN m) fun e w' => e = .returned (.int .u64 A) ∧ w' = wo.drewN m) := fun m => HAt.out _ (HN0.out.touch.trans ⟨rfl, rfl, rfl, Nat.le_refl _, fun _ _ _ => rfl⟩)
          by_cases hA : A = 0
          · have HK2 : Hid (Ins7 l (i + 1) ss) := HSk.out (.inl hA)
            subst hA
            clear HIn HSk HAt HZ0
            go_wp2_with fail
            go_quiet (exact (HA0.out _).mono fun e w'' h => ⟨h.1, _, h.2⟩)
            go_wp2_with fail
            go_roundg (l.length - (i + 1))
            case measure => omega
            case rel => exact ⟨i + 1, _, by omega, by go_num, ⟨HN0.out.on ⟨rfl, rfl, rfl, Nat.le_refl _, fun _ _ _ => rfl⟩, HK2.out⟩, by omega, ⟨_, _, rfl⟩⟩
          · have hA1 : (A == 0) = false := by simpa using hA
            have hA2 : decide (A = 0) = false := by simpa using hA
            have HIns : Hid (Ins7 l (i + 1) (ss.take p ++ ⟨xc, A⟩ :: ss.drop p)) := HIn.out p hA (by have := HPe.out; omega) HI.out (fun j hj h => by have := HPe.out; omega)
            clear HIn HSk
            go_wp2_with fail
            go_quiet (exact (HA0.out _).mono fun e w'' h => ⟨h.1, _, h.2⟩)
            have hpl : p ≤ ss.length := by have := HPe.out; omega
            clear hx0 hx1 HA0 hA hA1 hA2 hnp hnp2 hps
            generalize hqs : q + q1 + nq = qs
            have t4 : Touch (fun _ => False) wo (wo.drewN qs) := ⟨rfl, rfl, rfl, Nat.le_refl _, fun _ _ _ => rfl⟩
            obtain ⟨v5, w5, hrun, hN5, hgr⟩ := NewC.app1 (HN0.out.on t4) ⟨0, 0⟩ hssl
            rw [show (wo.drewN qs).heap.size = wo.heap.size from rfl, show (wo.drewN qs).alloc (ckO ⟨0, 0⟩) = (wo.alloc (ckO ⟨0, 0⟩)).drewN qs from rfl, ← hqs] at hrun
            have hrun2 := hrun
            have HA : Hid (NewC w w5 v5 (ss.take ss.length ++ ⟨0, 0⟩ :: ss.drop ss.length)) := by rw [List.take_length, List.drop_length]; exact hN5
            have hl5 : (ss ++ [(⟨0, 0⟩ : Ck)]).length = ss.length + 1 := by simp
            obtain ⟨ao5, cap5, hv5, hg5, hc5, hm5⟩ := hN5.shape
            rw [hl5] at hv5 hg5 hc5
            obtain ⟨g5, rfl⟩ := hg5 (by omega)
            subst hv5
            clear hN5 hrun t4 hgr
            clear hqs qs
            go_wp2_with (at_builtin; refine wpList_append_runC rfl _ _ rfl _ _ _ rfl rfl hrun2 ?_)
            clear hrun2
            go_loopg [6] (ss.length - p) (fun g s6 wx => ∃ (k : Nat) (y : Ck), k ≤ p + g ∧ p ≤ k ∧ k ≤ ss.length ∧ s6 = .int .i64 (k : Int) ∧ Hid (NewC w wx (.slice (some ⟨g5, 0, none⟩) (ss.length + 1) cap5) (ss.take k ++ y :: ss.drop k)))
            case atStart => exact ⟨ss.length, ⟨0, 0⟩, by omega, by omega, Nat.le_refl _, by go_num, HA.out⟩
            case round =>
              obtain ⟨k, y, hkg, hlk, hks, rfl, HN⟩ := hrel
              obtain ⟨wy, hwy⟩ : ∃ wy, wy = wr := ⟨_, rfl⟩
              subst hwy
              have hlen := insC_len ss y k hks
              have HNe : Hid (NewC w wy (.slice (some ⟨g5, 0, none⟩) (ss.take k ++ y :: ss.drop k).length cap5) (ss.take k ++ y :: ss.drop k)) := by rw [hlen]; exact HN.out
              have hnn : ss.take k ++ y :: ss.drop k ≠ [] := by simp
              obtain ⟨b6, o6, cp6, e6, _, _, hb6, hrow6⟩ := HNe.out.sl.row hnn
              simp only [Value.slice.injEq, Option.some.injEq, Addr.mk.injEq] at e6
              obtain ⟨⟨rfl, rfl, _⟩, _, rfl⟩ := e6
              have hfz : ∀ q, wy.frozen? ⟨g5, q, none⟩ = false := fun q => HNe.out.free rfl (by rw [hlen]; omega) q
              by_cases hkl : p < k
              · obtain ⟨kk, rfl⟩ : ∃ kk, k = kk + 1 := ⟨k - 1, by omega⟩
                have hkk : kk < ss.length := by omega
                have hel : ∀ hj, (ss.take (kk + 1) ++ y :: ss.drop (kk + 1))[kk]'hj = ss[kk] := fun hj => by
                  rw [List.getElem_append_left (by simp; omega), List.getElem_take]
                have hz := hrow6 kk (by rw [hlen]; omega)
                rw [hel] at hz
                have hz2 := hrow6 (kk + 1) (by rw [hlen]; omega)
                have HSt : Hid (NewC w ((wy.setCell ⟨g5, (kk + 1) * 2, none⟩ (.int .u64 ss[kk].c)).setCell ⟨g5, (kk + 1) * 2 + 1, none⟩ (.int .u64 ss[kk].k)) (.slice (some ⟨g5, 0, none⟩) (ss.length + 1) cap5) (ss.take kk ++ ss[kk] :: ss.drop kk)) := by
                  have := HNe.out.put (kk + 1) (by rw [hlen]; omega) ss[kk]
                  have hsh := shiftC_set ss y (kk + 1) (by omega) hks (by omega)
                  simp only [Nat.add_sub_cancel] at hsh
                  rw [hsh, hlen] at this
                  exact this
                simp only [Nat.zero_add] at hz hz2
                obtain ⟨c0, c1⟩ := hz
                obtain ⟨d0, d1⟩ := hz2
                generalize (ss.take (kk + 1) ++ y :: ss.drop (kk + 1))[kk + 1] = y2 at *
                generalize ss[kk] = zz at *
                obtain ⟨zzc, zzk⟩ := zz
                have f0 := hfz ((kk + 1) * 2)
                have f1 := hfz ((kk + 1) * 2 + 1)
                have i1 : IntKind.i64.wrap (kk : Int) = (kk : Int) := by simp [IntKind.wrap, IntKind.bits, IntKind.signed]; omega
                simp only at c0 c1
                clear hrow6 hel hnn hlen HNe HN hfz HIns HAt HZ0
                go_wp2_with fail
                go_roundg (kk - p)
                case measure => omega
                case rel => exact ⟨kk, _, by omega, by omega, by omega, by go_num, HSt.out⟩
              · have hkk : k = p := by omega
                subst hkk
                have hz2 := hrow6 k (by rw [hlen]; omega)
                obtain ⟨c0, c1⟩ := HZ0.out wy HN.out.touch
                have HSt : Hid (∀ n, NewC w (((wy.drewN n).setCell ⟨g5, k * 2, none⟩ (.int .u64 xc)).setCell ⟨g5, k * 2 + 1, none⟩ (.int .u64 A)) (.slice (some ⟨g5, 0, none⟩) (ss.length + 1) cap5) (ss.take k ++ ⟨xc, A⟩ :: ss.drop k)) := fun n => by
                  have := NewC.put (HNe.out.on (show Touch (fun _ => False) wy (wy.drewN n) from ⟨rfl, rfl, rfl, Nat.le_refl _, fun _ _ _ => rfl⟩)) k (by rw [hlen]; omega) ⟨xc, A⟩
                  rw [putC_set ss y ⟨xc, A⟩ k hks, hlen] at this
                  exact this
                simp only [Nat.zero_add] at hz2
                obtain ⟨d0, d1⟩ := hz2
                generalize (ss.take k ++ y :: ss.drop k)[k] = y2 at *
                have f0 := hfz (k * 2)
                have f1 := hfz (k * 2 + 1)
                have hlen2 := insC_len ss ⟨xc, A⟩ k hks
                have HLn : Hid ((ss.take k ++ (⟨xc, A⟩ : Ck) :: ss.drop k).length = ss.length + 1) := hlen2
                have HTw : Hid (Touch (fun _ => False) w wy.drew) := HN.out.touch.trans ⟨rfl, rfl, rfl, Nat.le_refl _, fun _ _ _ => rfl⟩
                have HS0 := HSt.out 1
                have HTs := HS0.touch
                have hcs := (HZ0.out _ HTs).1
                have HTs2 : Hid (Touch (fun _ => False) w ((wy.drew.setCell ⟨g5, k * 2, none⟩ (.int .u64 xc)).setCell ⟨g5, k * 2 + 1, none⟩ (.int .u64 A))) := HTs
                have HCs : Hid (((wy.drew.setCell ⟨g5, k * 2, none⟩ (.int .u64 xc)).setCell ⟨g5, k * 2 + 1, none⟩ (.int .u64 A)).cell? ⟨b, o + i * 2, none⟩ = some (.int .u64 xc)) := hcs
                have HSd : Hid (NewC w ((wy.drew.setCell ⟨g5, k * 2, none⟩ (.int .u64 xc)).setCell ⟨g5, k * 2 + 1, none⟩ (.int .u64 A)) (.slice (some ⟨g5, 0, none⟩) (ss.length + 1) cap5) (ss.take k ++ ⟨xc, A⟩ :: ss.drop k)) := HS0
                have i6 : (k : Int) < (ss.length : Int) + 1 := by omega
                have i7 : (0 : Int) ≤ (k : Int) := by omega
                have cd : wy.drew.cell? ⟨b, o + i * 2, none⟩ = some (.int .u64 xc) := c0
                clear hrow6 hnn hlen HNe HN hfz hlen2 HZ0 HSt HS0 HTs hcs
                go_wp2_with fail
                refine wp_region_noPanic ?_
                refine wp_region_held_drew (S := fun W : World => W.cell? ⟨b, o + i * 2, none⟩ = some (.int .u64 xc) ∧ Hid (Touch (fun _ => False) w W)) (by kernel_rfl) ⟨cd, HTw⟩ (fun hHeld => ?_)
                refine wpAnyH_take (i := 0) (oi := { dst := some 79, op := Op.move (Operand.tmp 3), type := 22, pos := "quireref7.go:36", after := #[], guard := none }) (v := (.slice (some ⟨g5, 0, none⟩) (ss.length + 1) cap5)) rfl (by kernel_rfl) (by kernel_rfl) (by kernel_rfl) (fun _ _ _ h => h) (Or.inl ⟨by rfl, ?_⟩) hHeld ?_
                · intro w' hSw; (try dsimp only at hSw); go_simp
                simp only [Act.put, List.setIfInBounds_toArray, List.set_cons_zero, List.set_cons_succ]
                refine wpAnyH_take (i := 1) (oi := { dst := some 80, op := Op.move (Operand.tmp 5), type := 3, pos := "quireref7.go:36", after := #[], guard := none }) (v := (.int .i64 (k : Int))) rfl (by kernel_rfl) (by kernel_rfl) (by kernel_rfl) (fun _ _ _ h => h) (Or.inl ⟨by rfl, ?_⟩) hHeld ?_
                · intro w' hSw; (try dsimp only at hSw); go_simp
                simp only [Act.put, List.setIfInBounds_toArray, List.set_cons_zero, List.set_cons_succ]
                refine wpAnyH_take (i := 2) (oi := { dst := some 81, op := Op.move (Operand.tmp 0), type := 22, pos := "quireref7.go:36", after := #[], guard := none }) (v := (.slice (some ⟨b, o, none⟩) l.length cap)) rfl (by kernel_rfl) (by kernel_rfl) (by kernel_rfl) (fun _ _ _ h => h) (Or.inl ⟨by rfl, ?_⟩) hHeld ?_
                · intro w' hSw; (try dsimp only at hSw); go_simp
                simp only [Act.put, List.setIfInBounds_toArray, List.set_cons_zero, List.set_cons_succ]
                refine wpAnyH_take (i := 3) (oi := { dst := some 82, op := Op.move (Operand.tmp 4), type := 3, pos := "quireref7.go:36", after := #[], guard := none }) (v := (.int .i64 (i : Int))) rfl (by kernel_rfl) (by kernel_rfl) (by kernel_rfl) (fun _ _ _ h => h) (Or.inl ⟨by rfl, ?_⟩) hHeld ?_
                · intro w' hSw; (try dsimp only at hSw); go_simp
                simp only [Act.put, List.setIfInBounds_toArray, List.set_cons_zero, List.set_cons_succ]
                refine wpAnyH_take (i := 4) (oi := { dst := some 83, op := Op.indexAddr 22 (Operand.tmp 81) (Operand.tmp 82), type := 0, pos := "quireref7.go:36", after := #[{ on := 2, ground := Ground.data }, { on := 3, ground := Ground.data }], guard := none }) (v := (.pointer (some ⟨b, o + i * 2, none⟩))) rfl (by kernel_rfl) (by kernel_rfl) (by kernel_rfl) (fun _ _ _ h => h) (Or.inl ⟨by rfl, ?_⟩) hHeld ?_
                · intro w' hSw; (try dsimp only at hSw); go_simp
                simp only [Act.put, List.setIfInBounds_toArray, List.set_cons_zero, List.set_cons_succ]
                refine wpAnyH_take (i := 5) (oi := { dst := some 84, op := Op.fieldAddr 50 (Operand.tmp 83) 0, type := 0, pos := "quireref7.go:36", after := #[{ on := 4, ground := Ground.data }], guard := none }) (v := (.pointer (some ⟨b, o + i * 2, none⟩))) rfl (by kernel_rfl) (by kernel_rfl) (by kernel_rfl) (fun _ _ _ h => h) (Or.inl ⟨by rfl, ?_⟩) hHeld ?_
                · intro w' hSw; (try dsimp only at hSw); go_simp
                simp only [Act.put, List.setIfInBounds_toArray, List.set_cons_zero, List.set_cons_succ]
                refine wpAnyH_take (i := 6) (oi := { dst := some 85, op := Op.load 48 (Operand.tmp 84), type := 48, pos := "quireref7.go:36", after := #[{ on := 5, ground := Ground.data }], guard := none }) (v := (.int .u64 xc)) rfl (by kernel_rfl) (by kernel_rfl) (by kernel_rfl) (fun _ _ _ h => h) (Or.inl ⟨by rfl, ?_⟩) hHeld ?_
                · intro w' hSw; (try dsimp only at hSw); go_simp
                simp only [Act.put, List.setIfInBounds_toArray, List.set_cons_zero, List.set_cons_succ]
                refine wpAnyH_take (i := 7) (oi := { dst := some 86, op := Op.move (Operand.tmp 0), type := 22, pos := "quireref7.go:36", after := #[], guard := none }) (v := (.slice (some ⟨b, o, none⟩) l.length cap)) rfl (by kernel_rfl) (by kernel_rfl) (by kernel_rfl) (fun _ _ _ h => h) (Or.inl ⟨by rfl, ?_⟩) hHeld ?_
                · intro w' hSw; (try dsimp only at hSw); go_simp
                simp only [Act.put, List.setIfInBounds_toArray, List.set_cons_zero, List.set_cons_succ]
                refine wpAnyH_take (i := 8) (oi := { dst := some 87, op := Op.move (Operand.tmp 0), type := 22, pos := "quireref7.go:36", after := #[], guard := none }) (v := (.slice (some ⟨b, o, none⟩) l.length cap)) rfl (by kernel_rfl) (by kernel_rfl) (by kernel_rfl) (fun _ _ _ h => h) (Or.inl ⟨by rfl, ?_⟩) hHeld ?_
                · intro w' hSw; (try dsimp only at hSw); go_simp
                simp only [Act.put, List.setIfInBounds_toArray, List.set_cons_zero, List.set_cons_succ]
                refine wpAnyH_take (i := 9) (oi := { dst := some 88, op := Op.move (Operand.tmp 4), type := 3, pos := "quireref7.go:36", after := #[], guard := none }) (v := (.int .i64 (i : Int))) rfl (by kernel_rfl) (by kernel_rfl) (by kernel_rfl) (fun _ _ _ h => h) (Or.inl ⟨by rfl, ?_⟩) hHeld ?_
                · intro w' hSw; (try dsimp only at hSw); go_simp
                simp only [Act.put, List.setIfInBounds_toArray, List.set_cons_zero, List.set_cons_succ]
                refine wpAnyH_take (i := 10) (oi := { dst := some 89, op := Op.indexAddr 22 (Operand.tmp 87) (Operand.tmp 88), type := 0, pos := "quireref7.go:36", after := #[{ on := 8, ground := Ground.data }, { on := 9, ground := Ground.data }], guard := none }) (v := (.pointer (some ⟨b, o + i * 2, none⟩))) rfl (by kernel_rfl) (by kernel_rfl) (by kernel_rfl) (fun _ _ _ h => h) (Or.inl ⟨by rfl, ?_⟩) hHeld ?_
                · intro w' hSw; (try dsimp only at hSw); go_simp
                simp only [Act.put, List.setIfInBounds_toArray, List.set_cons_zero, List.set_cons_succ]
                refine wpAnyH_take (i := 11) (oi := { dst := some 90, op := Op.fieldAddr 50 (Operand.tmp 89) 0, type := 0, pos := "quireref7.go:36", after := #[{ on := 10, ground := Ground.data }], guard := none }) (v := (.pointer (some ⟨b, o + i * 2, none⟩))) rfl (by kernel_rfl) (by kernel_rfl) (by kernel_rfl) (fun _ _ _ h => h) (Or.inl ⟨by rfl, ?_⟩) hHeld ?_
                · intro w' hSw; (try dsimp only at hSw); go_simp
                simp only [Act.put, List.setIfInBounds_toArray, List.set_cons_zero, List.set_cons_succ]
                refine wpAnyH_take (i := 12) (oi := { dst := some 91, op := Op.load 48 (Operand.tmp 90), type := 48, pos := "quireref7.go:36", after := #[{ on := 11, ground := Ground.data }], guard := none }) (v := (.int .u64 xc)) rfl (by kernel_rfl) (by kernel_rfl) (by kernel_rfl) (fun _ _ _ h => h) (Or.inl ⟨by rfl, ?_⟩) hHeld ?_
                · intro w' hSw; (try dsimp only at hSw); go_simp
                simp only [Act.put, List.setIfInBounds_toArray, List.set_cons_zero, List.set_cons_succ]
                refine wpAnyH_ready (rs := [13]) (by kernel_rfl) (by simp) ?_
                refine AllReadyH.cons (o := { dst := some 92, op := Op.call { callee := Callee.value (Operand.func 36), args := #[Operand.tmp 86, Operand.tmp 91], argTypes := #[22, 48] }, type := 48, pos := "quireref7.go:36", after := #[{ on := 7, ground := Ground.data }, { on := 12, ground := Ground.data }], guard := none }) rfl (fun K hK => ?_) AllReadyH.nil
                go_simp
                refine (HAt.out _ hHeld.2.out).mono ?_
                rintro e w' ⟨rfl, rfl⟩
                refine hK.out _ _ hHeld (fun hHeld => ?_)
                clear hK K
                try dsimp only
                refine wpAnyH_take (i := 14) (oi := { dst := some 93, op := Op.build 50 #[(0, Operand.tmp 85), (1, Operand.tmp 92)], type := 50, pos := "quireref7.go:36", after := #[{ on := 6, ground := Ground.data }, { on := 13, ground := Ground.data }], guard := none }) (v := (.agg #[.int .u64 xc, .int .u64 A])) rfl (by kernel_rfl) (by kernel_rfl) (by kernel_rfl) (fun _ _ _ h => h) (Or.inl ⟨by rfl, ?_⟩) hHeld ?_
                · intro w' hSw; (try dsimp only at hSw); go_simp
                simp only [Act.put, List.setIfInBounds_toArray, List.set_cons_zero, List.set_cons_succ]
                refine wpAnyH_take (i := 15) (oi := { dst := some 94, op := Op.indexAddr 22 (Operand.tmp 79) (Operand.tmp 80), type := 0, pos := "quireref7.go:36", after := #[{ on := 0, ground := Ground.data }, { on := 1, ground := Ground.data }, { on := 0, ground := Ground.phase }, { on := 1, ground := Ground.phase }, { on := 2, ground := Ground.phase }, { on := 3, ground := Ground.phase }, { on := 4, ground := Ground.phase }, { on := 5, ground := Ground.phase }, { on := 6, ground := Ground.phase }, { on := 7, ground := Ground.phase }, { on := 8, ground := Ground.phase }, { on := 9, ground := Ground.phase }, { on := 10, ground := Ground.phase }, { on := 11, ground := Ground.phase }, { on := 12, ground := Ground.phase }, { on := 13, ground := Ground.phase }, { on := 14, ground := Ground.phase }], guard := none }) (v := (.pointer (some ⟨g5, k * 2, none⟩))) rfl (by kernel_rfl) (by kernel_rfl) (by kernel_rfl) (fun _ _ _ h => h) (Or.inl ⟨by rfl, ?_⟩) hHeld ?_
                · intro w' hSw; (try dsimp only at hSw); go_simp
                simp only [Act.put, List.setIfInBounds_toArray, List.set_cons_zero, List.set_cons_succ]
                refine wpAnyH_ready (rs := [16]) (by kernel_rfl) (by simp) ?_
                refine AllReadyH.cons (o := { dst := none, op := Op.store 50 (Operand.tmp 94) (Operand.tmp 93), type := 0, pos := "quireref7.go:36", after := #[{ on := 15, ground := Ground.data }, { on := 14, ground := Ground.data }, { on := 13, ground := Ground.chain }, { on := 0, ground := Ground.phase }, { on := 1, ground := Ground.phase }, { on := 2, ground := Ground.phase }, { on := 3, ground := Ground.phase }, { on := 4, ground := Ground.phase }, { on := 5, ground := Ground.phase }, { on := 6, ground := Ground.phase }, { on := 7, ground := Ground.phase }, { on := 8, ground := Ground.phase }, { on := 9, ground := Ground.phase }, { on := 10, ground := Ground.phase }, { on := 11, ground := Ground.phase }, { on := 12, ground := Ground.phase }, { on := 13, ground := Ground.phase }, { on := 14, ground := Ground.phase }], guard := none }) rfl (fun K hK => ?_) AllReadyH.nil
                go_simp
                refine hK.out _ _ ⟨HCs.out, HTs2⟩ (fun hHeld => ?_)
                clear hK K
                try dsimp only
                refine wpAnyH_done (by kernel_rfl) ?_ _
                clear hHeld
                first | refine NoPanic.normal ?_ | skip
                go_wp2_with fail
                go_roundg (l.length - (i + 1))
                case measure => omega
                case rel => exact ⟨i + 1, _, by omega, by go_num, ⟨HSd.out, HIns.out⟩, by rw [HLn.out]; omega, ⟨_, _, by rw [HLn.out]⟩⟩
    · have hil : i = l.length := by omega
      subst hil
      have HQ : Hid (NewC w wo (.slice ao3 ss.length cap3) ss ∧ VForm ss (atC l) ∧ ss.length ≤ l.length) := ⟨H.out.1, H.out.2.done, hsi⟩
      clear H
      go_wp2_with fail
      refine bodyPost_ret (v := .slice ao3 ss.length cap3) (by simp [results, Tryz.results16, go_sem]) rfl ?_
      exact ⟨_, _, rfl, HQ.out⟩
end Go.Proofs.YtdblfabbmpdoiaaGreat
