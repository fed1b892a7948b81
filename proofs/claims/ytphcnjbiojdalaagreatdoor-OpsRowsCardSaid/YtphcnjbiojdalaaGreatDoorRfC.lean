/- The contract of quireref6.Clean. -/
import Derived.Test.YtphcnjbiojdalaaGreatDoorPart7
import Derived.Test.YtphcnjbiojdalaaGreatDoorRowR
import Derived.Deep.LoopGhost
import Derived.Deep.RegionHeld3
import Derived.Deep.DeepCutAuto
import Derived.BigQuiet
import Derived.Deep.QuietTactic
namespace Go.Proofs.YtphcnjbiojdalaaGreatDoor
open Go.RowKit Go.Maps
set_option linter.unusedVariables false
set_option linter.unusedSimpArgs false
set_option maxRecDepth 100000

theorem Rg.le_trans {a b c : Rg} (h : Rg.le a b) (k : Rg.le b c) : Rg.le a c := by unfold Rg.le at *; omega
theorem ins_sorted (ss : List Rg) (x : Rg) (p : Nat) (h : ss.Pairwise Rg.le) (h1 : ∀ j (hj : j < ss.length), j < p → Rg.le ss[j] x) (h2 : ∀ j (hj : j < ss.length), p ≤ j → Rg.le x ss[j]) : (ss.take p ++ x :: ss.drop p).Pairwise Rg.le := by
  rw [List.pairwise_append]
  have hx := h
  rw [← List.take_append_drop p ss, List.pairwise_append] at hx
  refine ⟨hx.1, List.pairwise_cons.2 ⟨fun y hy => ?_, hx.2.1⟩, fun y hy z hz => ?_⟩
  · obtain ⟨j, hj, rfl⟩ := List.getElem_of_mem hy
    rw [List.getElem_drop]
    exact h2 _ (by simp at hj; omega) (by omega)
  · rcases List.mem_cons.1 hz with rfl | hz
    · obtain ⟨j, hj, rfl⟩ := List.getElem_of_mem hy
      rw [List.getElem_take]
      simp at hj
      exact h1 _ (by omega) (by omega)
    · exact hx.2.2 y hy z hz
theorem ins_perm (ss : List Rg) (x : Rg) (p : Nat) : (ss.take p ++ x :: ss.drop p).Perm (ss ++ [x]) := by
  refine (List.perm_middle).trans ?_
  rw [List.take_append_drop]
  exact (List.perm_append_singleton x ss).symm
theorem ins_len (ss : List Rg) (x : Rg) (p : Nat) (hp : p ≤ ss.length) : (ss.take p ++ x :: ss.drop p).length = ss.length + 1 := by simp; omega
theorem shift_set (ss : List Rg) (y : Rg) (k : Nat) (h0 : 0 < k) (hk : k ≤ ss.length) (hk1 : k - 1 < ss.length) : (ss.take k ++ y :: ss.drop k).set k ss[k - 1] = ss.take (k - 1) ++ ss[k - 1] :: ss.drop (k - 1) := by
  have hl : (ss.take k).length = k := by simp; omega
  rw [List.set_append_right _ _ (by omega), hl, Nat.sub_self, List.set_cons_zero]
  have e1 : ss.take k = ss.take (k - 1) ++ [ss[k - 1]] := by
    have := List.take_succ_eq_append_getElem hk1
    rwa [show k - 1 + 1 = k from by omega] at this
  have e2 : ss.drop (k - 1) = ss[k - 1] :: ss.drop k := by
    have := List.drop_eq_getElem_cons hk1
    rwa [show k - 1 + 1 = k from by omega] at this
  rw [e2, e1, List.append_assoc]
  rfl
theorem put_set (ss : List Rg) (y x : Rg) (k : Nat) (hk : k ≤ ss.length) : (ss.take k ++ y :: ss.drop k).set k x = ss.take k ++ x :: ss.drop k := by
  have hl : (ss.take k).length = k := by simp; omega
  rw [List.set_append_right _ _ (by omega), hl, Nat.sub_self, List.set_cons_zero]
/-- A range laid at a place of a slice of one's own. -/
theorem NewR.put {W w : World} {g cap : Nat} {l : List Rg} (h : NewR W w (.slice (some ⟨g, 0, none⟩) l.length cap) l) (j : Nat) (hj : j < l.length) (r : Rg) :
    NewR W (((w.setCell ⟨g, j * 3, none⟩ (.int .u64 r.c)).setCell ⟨g, j * 3 + 1, none⟩ (.int .u64 r.f)).setCell ⟨g, j * 3 + 2, none⟩ (.int .u64 r.t)) (.slice (some ⟨g, 0, none⟩) l.length cap) (l.set j r) := by
  have h1 := OwnR.set h rfl (j * 3) (by omega) (.int .u64 r.c) rfl
  have h2 := OwnR.set h1 rfl (j * 3 + 1) (by omega) (.int .u64 r.f) rfl
  have h3 := OwnR.set h2 rfl (j * 3 + 2) (by omega) (.int .u64 r.t) rfl
  rw [cellsR_set l j hj r] at h3
  unfold NewR
  rw [List.length_set]; exact h3
theorem lessR_le {a b : Rg} (h : lessR a b = true) : Rg.le a b := by unfold lessR at h; unfold Rg.le; simp at h; omega
theorem lessR_ge {a b : Rg} (h : lessR a b = false) : Rg.le b a := by unfold lessR at h; unfold Rg.le; simp at h; omega

/-- The first half: right ranges, sorted. -/
structure Sorted6 (w : World) (l : List Rg) (i : Nat) (wx : World) (v : Value) (ss : List Rg) : Prop where
  nw : NewR w wx v ss
  perm : ss.Perm ((l.take i).filter Rg.ok)
  sorted : ss.Pairwise Rg.le
theorem Sorted6.start (w : World) (l : List Rg) (wx : World) (t : Touch (fun _ => False) w wx) : Sorted6 w l 0 wx (.slice none 0 0) [] := ⟨NewR.nil w wx t, List.Perm.refl _, List.Pairwise.nil⟩
theorem filter_step {l : List Rg} {i : Nat} (hi : i < l.length) : (l.take (i + 1)).filter Rg.ok = (l.take i).filter Rg.ok ++ (if l[i].ok then [l[i]] else []) := by
  rw [List.take_succ_eq_append_getElem hi, List.filter_append]
  congr 1
  by_cases h : l[i].ok = true <;> simp [h]

/-- The second half: joined so far. -/
def Joined6 (ss : List Rg) (j : Nat) (o : List Rg) : Prop := (o = [] ∧ j = 0) ∨ ∃ p x, o = p ++ [x] ∧ mergeR ss = p ++ mergeFrom x (ss.drop j)
theorem Joined6.fresh {ss : List Rg} (h : 0 < ss.length) : Joined6 ss 1 [ss[0]] := by
  refine .inr ⟨[], ss[0], rfl, ?_⟩
  cases ss with
  | nil => simp at h
  | cons r ss => rfl
theorem Joined6.gap {ss p : List Rg} {x : Rg} {j : Nat} (h : mergeR ss = p ++ mergeFrom x (ss.drop j)) (hj : j < ss.length) (hg : ss[j].c ≠ x.c ∨ x.t < ss[j].f) : Joined6 ss (j + 1) ((p ++ [x]) ++ [ss[j]]) := by
  refine .inr ⟨p ++ [x], ss[j], rfl, ?_⟩
  rw [h, List.drop_eq_getElem_cons hj, mergeFrom, if_pos hg, List.append_assoc]; rfl
theorem Joined6.on {ss p : List Rg} {x : Rg} {j : Nat} (h : mergeR ss = p ++ mergeFrom x (ss.drop j)) (hj : j < ss.length) (hg : ¬ (ss[j].c ≠ x.c ∨ x.t < ss[j].f)) : Joined6 ss (j + 1) (p ++ [⟨x.c, x.f, max x.t ss[j].t⟩]) := by
  refine .inr ⟨p, _, rfl, ?_⟩
  rw [h, List.drop_eq_getElem_cons hj, mergeFrom, if_neg hg]
theorem Joined6.done {ss o : List Rg} (h : Joined6 ss ss.length o) : mergeR ss = o := by
  rcases h with ⟨rfl, h0⟩ | ⟨p, x, rfl, h⟩
  · rw [List.length_eq_zero_iff.1 h0]; rfl
  · rw [h, List.drop_length]; rfl
theorem lastOf {l : List Rg} (h : l ≠ []) : ∃ p x, l = p ++ [x] := ⟨l.dropLast, l.getLast h, (List.dropLast_concat_getLast h).symm⟩

set_option maxHeartbeats 8000000 in
theorem rclean_any (l : List Rg) (v : Value) (w : World) (hs : SlR w v l) (hll : l.length ≤ 1073741824) :
    Calls Tryz.prog 34 #[v] w fun e w' => ∃ v' out, e = .returned v' ∧ NewR w w' v' out ∧ Form (tns out) (turnOf (tns l)) ∧ out.length ≤ l.length := by
  have HL : Hid (SlR w v l) := hs
  obtain ⟨ao, cap, rfl, _⟩ := hs
  have HRi := fun r W => rright_any r W
  go_enter Tryz.func34, Tryz.ntmps34
  go_wp2_with fail
  go_loopg [3, 4] l.length (fun g s3 s4 wx => ∃ (i : Nat) (ss : List Rg), i + g = l.length ∧ s4 = .int .i64 (i : Int) ∧ Hid (Sorted6 w l i wx s3 ss) ∧ ss.length ≤ i ∧ ∃ ao cap, s3 = .slice ao ss.length cap)
  case atStart => exact ⟨0, [], by omega, rfl, Sorted6.start w l w (Touch.refl _ _), Nat.le_refl _, ⟨_, _, rfl⟩⟩
  case round =>
    obtain ⟨i, ss, hig, rfl, H, hsi, ⟨ao3, cap3, rfl⟩⟩ := hrel
    obtain ⟨wo, hwo⟩ : ∃ wo, wo = wr := ⟨_, rfl⟩
    subst hwo
    by_cases hlt : i < l.length
    · have hne : l ≠ [] := by rintro rfl; simp at hlt
      obtain ⟨b, o, cp, e, _, _, hb, hrow⟩ := (HL.out.touch H.out.nw.touch).row hne
      obtain ⟨rfl, _, rfl⟩ : ao = some ⟨b, o, none⟩ ∧ True ∧ cap = cp := by simpa using e
      obtain ⟨c0, c1, c2⟩ := hrow i hlt
      have HFS : Hid ((l.take (i + 1)).filter Rg.ok = (l.take i).filter Rg.ok ++ (if l[i].ok then [l[i]] else [])) := filter_step hlt
      have HZ0 : Hid (∀ W, Touch (fun _ => False) w W → W.cell? ⟨b, o + i * 3, none⟩ = some (.int .u64 l[i].c) ∧ W.cell? ⟨b, o + i * 3 + 1, none⟩ = some (.int .u64 l[i].f) ∧ W.cell? ⟨b, o + i * 3 + 2, none⟩ = some (.int .u64 l[i].t)) := fun W t => by
        obtain ⟨b', o', cp', e', _, _, hb', hrow'⟩ := (HL.out.touch t).row hne
        simp only [Value.slice.injEq, Option.some.injEq, Addr.mk.injEq] at e'
        obtain ⟨⟨rfl, rfl, _⟩, _, _⟩ := e'
        exact hrow' i hlt
      have HCx : Hid (∀ W, Touch (fun _ => False) wo W → W.cell? ⟨b, o + i * 3, none⟩ = some (.int .u64 l[i].c) ∧ W.cell? ⟨b, o + i * 3 + 1, none⟩ = some (.int .u64 l[i].f) ∧ W.cell? ⟨b, o + i * 3 + 2, none⟩ = some (.int .u64 l[i].t)) := fun W t => by
        have hz := hrow i hlt
        exact ⟨by rw [World.cell?_of_block (t.block _ hb id)]; exact hz.1, by rw [World.cell?_of_block (t.block _ hb id)]; exact hz.2.1, by rw [World.cell?_of_block (t.block _ hb id)]; exact hz.2.2⟩
      generalize l[i] = x at *
      have HRx := HRi x
      clear hrow e hne HRi
      cases hok : x.ok with
      | false =>
        have HQ : Hid (Sorted6 w l (i + 1) (wo.alloc (rgO x)) (.slice ao3 ss.length cap3) ss) := by
          refine ⟨H.out.nw.on ((Touch.refl _ _).alloc _), ?_, H.out.sorted⟩
          rw [HFS.out, hok]; simpa using H.out.perm
        rw [hok] at HRx
        obtain ⟨xc, xf, xt⟩ := x
        simp only at *
        go_wp2_with (go_at_call 59; refine (HRx _).mono ?_; rintro e w' ⟨rfl, rfl⟩)
        go_roundg (l.length - (i + 1))
        case measure => omega
        case rel => exact ⟨i + 1, ss, by omega, by go_num, HQ, by omega, ⟨_, _, rfl⟩⟩
      | true =>
        have HP : Hid (∀ p, (ss.take p ++ x :: ss.drop p).Perm ((l.take (i + 1)).filter Rg.ok)) := fun p => by
          rw [HFS.out, hok]
          exact (ins_perm ss x p).trans (H.out.perm.append_right [x])
        rw [hok] at HRx
        clear hok HFS
        obtain ⟨xc, xf, xt⟩ := x
        simp only at c0 c1 c2
        have HX : Hid (∀ y : Rg, y = ⟨xc, xf, xt⟩ → True) := fun _ _ => trivial
        go_wp2_with (go_at_call 59; refine (HRx _).mono ?_; rintro e w' ⟨rfl, rfl⟩)
        clear HRx c0 c1 c2
        go_loopg [5, 6] ss.length (fun g s5 s6 wx => ∃ lo hi : Nat, hi = lo + g ∧ hi ≤ ss.length ∧ s5 = .int .i64 (lo : Int) ∧ s6 = .int .i64 (hi : Int) ∧ Hid (Touch (fun _ => False) wo wx ∧ (∀ j (hj : j < ss.length), j < lo → Rg.le ss[j] ⟨xc, xf, xt⟩) ∧ ∀ j (hj : j < ss.length), hi ≤ j → Rg.le ⟨xc, xf, xt⟩ ss[j]))
        case atStart => exact ⟨0, ss.length, by omega, Nat.le_refl _, rfl, rfl, ⟨(Touch.refl _ _).alloc _, fun j _ h => by omega, fun j h h' => by omega⟩⟩
        case round =>
          obtain ⟨lo, hi, hlh0, hhs, rfl, rfl, HI⟩ := hrel
          have hlh : hi ≤ lo + gk ∧ lo + gk ≤ hi := by omega
          clear hlh0
          obtain ⟨wx, hwx⟩ : ∃ wx, wx = wr := ⟨_, rfl⟩
          subst hwx
          by_cases hlt2 : lo < hi
          · obtain ⟨m, hm⟩ : ∃ m, m = (lo + hi) / 2 := ⟨_, rfl⟩
            have hm1 : lo ≤ m := by omega
            have hm2 : m < hi := by omega
            have hq : ((lo : Int) + (hi : Int)).tdiv 2 = (m : Int) := by
              rw [show ((lo : Int) + (hi : Int)) = ((lo + hi : Nat) : Int) from by omega, hm]
              exact (Int.ofNat_tdiv (lo + hi) 2).symm
            clear hm
            have hms : m < ss.length := by omega
            have hne2 : ss ≠ [] := by rintro rfl; simp at hms
            obtain ⟨b3, o3, cp3, e3, _, _, hb3, hrow3⟩ := (H.out.nw.sl.touch HI.out.1).row hne2
            obtain ⟨rfl, _, rfl⟩ : ao3 = some ⟨b3, o3, none⟩ ∧ True ∧ cap3 = cp3 := by simpa using e3
            have HK : Hid (∀ W, Touch (fun _ => False) wx W → (W.cell? ⟨b, o + i * 3, none⟩ = some (.int .u64 xc) ∧ W.cell? ⟨b, o + i * 3 + 1, none⟩ = some (.int .u64 xf) ∧ W.cell? ⟨b, o + i * 3 + 2, none⟩ = some (.int .u64 xt)) ∧ W.cell? ⟨b3, o3 + m * 3, none⟩ = some (.int .u64 ss[m].c) ∧ W.cell? ⟨b3, o3 + m * 3 + 1, none⟩ = some (.int .u64 ss[m].f) ∧ W.cell? ⟨b3, o3 + m * 3 + 2, none⟩ = some (.int .u64 ss[m].t)) := fun W t => by
              have hz := hrow3 m hms
              exact ⟨HCx.out W (HI.out.1.trans t), by rw [World.cell?_of_block (t.block _ hb3 id)]; exact hz.1, by rw [World.cell?_of_block (t.block _ hb3 id)]; exact hz.2.1, by rw [World.cell?_of_block (t.block _ hb3 id)]; exact hz.2.2⟩
            have HLE : Hid ((lessR ⟨xc, xf, xt⟩ ss[m] = true → ∀ j (hj : j < ss.length), m ≤ j → Rg.le ⟨xc, xf, xt⟩ ss[j]) ∧ (lessR ⟨xc, xf, xt⟩ ss[m] = false → ∀ j (hj : j < ss.length), j < m + 1 → Rg.le ss[j] ⟨xc, xf, xt⟩)) := by
              have hso := H.out.sorted
              rw [List.pairwise_iff_getElem] at hso
              refine ⟨fun h j hj hmj => ?_, fun h j hj hmj => ?_⟩
              · rcases Nat.lt_or_ge m j with g | g
                · exact Rg.le_trans (lessR_le h) (hso m j hms hj g)
                · obtain rfl : m = j := by omega
                  exact lessR_le h
              · rcases Nat.lt_or_ge j m with g | g
                · exact Rg.le_trans (hso j m hj hms g) (lessR_ge h)
                · obtain rfl : m = j := by omega
                  exact lessR_ge h
            have HLC : Hid (∀ W, Touch (fun _ => False) wx W → Calls Tryz.prog 60 #[rgV ⟨xc, xf, xt⟩, rgV ss[m]] W fun e w' => e = .returned (.bool (lessR ⟨xc, xf, xt⟩ ss[m])) ∧ Touch (fun _ => False) wx w') := fun W t => (rlessR_any _ _ W).mono fun e w' q => ⟨q.1, by rw [q.2]; exact (t.alloc _).alloc _⟩
            generalize lessR ⟨xc, xf, xt⟩ ss[m] = lb at *
            generalize ss[m] = z at *
            obtain ⟨zc, zf, zt⟩ := z
            simp only at HK HLC
            have i1 : IntKind.i64.wrap ((lo : Int) + (hi : Int)) = (lo : Int) + (hi : Int) := by simp [IntKind.wrap, IntKind.bits, IntKind.signed]; omega
            have i2 : (0 : Int) ≤ (m : Int) := by omega
            have i3 : (m : Int) < (ss.length : Int) := by omega
            have i4 : (i : Int) < (l.length : Int) := by omega
            have S0 := HK.out wx (Touch.refl _ _)
            have S1 := HK.out wx.drew (Touch.refl _ _).drew
            have C1 := HLC.out wx (Touch.refl _ _)
            have C2 := HLC.out wx.drew (Touch.refl _ _).drew
            clear hrow3 e3 hne2
            go_upto_region 9 with fail
            go_cut [41] (fun t wz => t = .bool lb ∧ Hid (Touch (fun _ => False) wx wz))
            case first =>
              go_wp2_with fail
              go_region_held3 (fun W => (W.cell? ⟨b, o + i * 3, none⟩ = some (.int .u64 xc) ∧ W.cell? ⟨b, o + i * 3 + 1, none⟩ = some (.int .u64 xf) ∧ W.cell? ⟨b, o + i * 3 + 2, none⟩ = some (.int .u64 xt)) ∧ W.cell? ⟨b3, o3 + m * 3, none⟩ = some (.int .u64 zc) ∧ W.cell? ⟨b3, o3 + m * 3 + 1, none⟩ = some (.int .u64 zf) ∧ W.cell? ⟨b3, o3 + m * 3 + 2, none⟩ = some (.int .u64 zt)) (first | assumption)
                (first | (go_at_call 60; first | ((with_reducible refine C1.mono ?_); rintro e w3 ⟨rfl, t3⟩; have S3 := HK.out w3 t3; have T3 : Hid (Touch (fun _ => False) wx w3) := t3; clear t3) | ((with_reducible refine C2.mono ?_); rintro e w3 ⟨rfl, t3⟩; have S3 := HK.out w3 t3; have T3 : Hid (Touch (fun _ => False) wx w3) := t3; clear t3)))
              all_goals (try go_wp2_with fail)
              all_goals go_meet
              all_goals (case rel => exact ⟨rfl, T3.out⟩)
            case rest =>
              obtain ⟨rfl, hcT⟩ := hcut
              clear S0 S1 C1 C2 HK HLC
              cases lb with
              | true =>
                have HLE2 := HLE.out.1 rfl
                have HL2 : Hid (∀ j (hj : j < ss.length), m ≤ j → Rg.le ⟨xc, xf, xt⟩ ss[j]) := HLE2
                clear HLE HLE2
                go_wp2_with fail
                go_roundg (m - lo)
                case measure => omega
                case rel => exact ⟨lo, m, by omega, by omega, rfl, rfl, ⟨HI.out.1.trans hcT.out, HI.out.2.1, HL2.out⟩⟩
              | false =>
                have HLE2 := HLE.out.2 rfl
                have HL2 : Hid (∀ j (hj : j < ss.length), j < m + 1 → Rg.le ss[j] ⟨xc, xf, xt⟩) := HLE2
                clear HLE HLE2
                go_wp2_with fail
                go_roundg (hi - (m + 1))
                case measure => omega
                case rel => exact ⟨m + 1, hi, by omega, by omega, by go_num, rfl, ⟨HI.out.1.trans hcT.out, HL2.out, HI.out.2.2⟩⟩
          · have hle : lo = hi := by omega
            subst hle
            obtain ⟨v5, w5, hrun, hN5, _⟩ := NewR.app1 (H.out.nw.on HI.out.1) ⟨0, 0, 0⟩ (by omega)
            have HA : Hid (NewR w w5 v5 (ss.take ss.length ++ ⟨0, 0, 0⟩ :: ss.drop ss.length) ∧ Touch (fun _ => False) w w5) := ⟨by rw [List.take_length, List.drop_length]; exact hN5, hN5.touch⟩
            have hl5 : (ss ++ [(⟨0, 0, 0⟩ : Rg)]).length = ss.length + 1 := by simp
            obtain ⟨ao5, cap5, hv5, hg5, hc5, hm5⟩ := hN5.shape
            rw [hl5] at hv5 hg5 hc5
            obtain ⟨g5, rfl⟩ := hg5 (by omega)
            subst hv5
            have HIn : Hid ((∀ j (hj : j < ss.length), j < lo → Rg.le ss[j] ⟨xc, xf, xt⟩) ∧ ∀ j (hj : j < ss.length), lo ≤ j → Rg.le ⟨xc, xf, xt⟩ ss[j]) := HI.out.2
            have HXc : Hid (∀ W, Touch (fun _ => False) w W → W.cell? ⟨b, o + i * 3, none⟩ = some (.int .u64 xc) ∧ W.cell? ⟨b, o + i * 3 + 1, none⟩ = some (.int .u64 xf) ∧ W.cell? ⟨b, o + i * 3 + 2, none⟩ = some (.int .u64 xt)) := HZ0.out
            clear hN5 HI
            go_wp2_with (at_builtin; refine wpList_append_runR rfl _ _ rfl _ _ _ rfl rfl hrun ?_)
            clear hrun
            go_loopg [8] (ss.length - lo) (fun g s8 wx => ∃ (k : Nat) (y : Rg), k ≤ lo + g ∧ lo ≤ k ∧ k ≤ ss.length ∧ s8 = .int .i64 (k : Int) ∧ Hid (NewR w wx (.slice (some ⟨g5, 0, none⟩) (ss.length + 1) cap5) (ss.take k ++ y :: ss.drop k)))
            case atStart => exact ⟨ss.length, ⟨0, 0, 0⟩, by omega, by omega, Nat.le_refl _, by go_num, HA.out.1⟩
            case round =>
              obtain ⟨k, y, hkg, hlk, hks, rfl, HN⟩ := hrel
              obtain ⟨wy, hwy⟩ : ∃ wy, wy = wr := ⟨_, rfl⟩
              subst hwy
              have hlen := ins_len ss y k hks
              have HNe : Hid (NewR w wy (.slice (some ⟨g5, 0, none⟩) (ss.take k ++ y :: ss.drop k).length cap5) (ss.take k ++ y :: ss.drop k)) := by rw [hlen]; exact HN.out
              have hnn : ss.take k ++ y :: ss.drop k ≠ [] := by simp
              obtain ⟨b6, o6, cp6, e6, _, _, hb6, hrow6⟩ := HNe.out.sl.row hnn
              simp only [Value.slice.injEq, Option.some.injEq, Addr.mk.injEq] at e6
              obtain ⟨⟨rfl, rfl, _⟩, _, rfl⟩ := e6
              have hfz : ∀ q, wy.frozen? ⟨g5, q, none⟩ = false := fun q => HNe.out.free rfl (by rw [hlen]; omega) q
              by_cases hkl : lo < k
              · obtain ⟨kk, rfl⟩ : ∃ kk, k = kk + 1 := ⟨k - 1, by omega⟩
                have hkk : kk < ss.length := by omega
                have hel : ∀ hj, (ss.take (kk + 1) ++ y :: ss.drop (kk + 1))[kk]'hj = ss[kk] := fun hj => by
                  rw [List.getElem_append_left (by simp; omega), List.getElem_take]
                have hz := hrow6 kk (by rw [hlen]; omega)
                rw [hel] at hz
                have hz2 := hrow6 (kk + 1) (by rw [hlen]; omega)
                have HSt : Hid (NewR w (((wy.setCell ⟨g5, (kk + 1) * 3, none⟩ (.int .u64 ss[kk].c)).setCell ⟨g5, (kk + 1) * 3 + 1, none⟩ (.int .u64 ss[kk].f)).setCell ⟨g5, (kk + 1) * 3 + 2, none⟩ (.int .u64 ss[kk].t)) (.slice (some ⟨g5, 0, none⟩) (ss.length + 1) cap5) (ss.take kk ++ ss[kk] :: ss.drop kk)) := by
                  have := HNe.out.put (kk + 1) (by rw [hlen]; omega) ss[kk]
                  have hsh := shift_set ss y (kk + 1) (by omega) hks (by omega)
                  simp only [Nat.add_sub_cancel] at hsh
                  rw [hsh, hlen] at this
                  exact this
                simp only [Nat.zero_add] at hz hz2
                obtain ⟨c0, c1, c2⟩ := hz
                obtain ⟨d0, d1, d2⟩ := hz2
                generalize (ss.take (kk + 1) ++ y :: ss.drop (kk + 1))[kk + 1] = y2 at *
                generalize ss[kk] = z at *
                obtain ⟨zc, zf, zt⟩ := z
                have f0 := hfz ((kk + 1) * 3)
                have f1 := hfz ((kk + 1) * 3 + 1)
                have f2 := hfz ((kk + 1) * 3 + 2)
                have i1 : IntKind.i64.wrap (kk : Int) = (kk : Int) := by simp [IntKind.wrap, IntKind.bits, IntKind.signed]; omega
                simp only at c0 c1 c2
                clear hrow6 hel hnn hlen HNe HN hfz
                go_wp2_with fail
                go_roundg (kk - lo)
                case measure => omega
                case rel => exact ⟨kk, _, by omega, by omega, by omega, by go_num, HSt.out⟩
              · have hkk : k = lo := by omega
                subst hkk
                have hz2 := hrow6 k (by rw [hlen]; omega)
                have hxc := HXc.out wy HN.out.touch
                have HSt : Hid (Sorted6 w l (i + 1) (((wy.setCell ⟨g5, k * 3, none⟩ (.int .u64 xc)).setCell ⟨g5, k * 3 + 1, none⟩ (.int .u64 xf)).setCell ⟨g5, k * 3 + 2, none⟩ (.int .u64 xt)) (.slice (some ⟨g5, 0, none⟩) (ss.length + 1) cap5) (ss.take k ++ ⟨xc, xf, xt⟩ :: ss.drop k)) := by
                  have := HNe.out.put k (by rw [hlen]; omega) ⟨xc, xf, xt⟩
                  rw [put_set ss y ⟨xc, xf, xt⟩ k hks, hlen] at this
                  exact ⟨this, HP.out k, ins_sorted ss _ k H.out.sorted HIn.out.1 HIn.out.2⟩
                simp only [Nat.zero_add] at hz2
                obtain ⟨d0, d1, d2⟩ := hz2
                obtain ⟨c0, c1, c2⟩ := hxc
                generalize (ss.take k ++ y :: ss.drop k)[k] = y2 at *
                have f0 := hfz (k * 3)
                have f1 := hfz (k * 3 + 1)
                have f2 := hfz (k * 3 + 2)
                have hlen2 := ins_len ss ⟨xc, xf, xt⟩ k hks
                have HLn : Hid ((ss.take k ++ (⟨xc, xf, xt⟩ : Rg) :: ss.drop k).length = ss.length + 1) := hlen2
                clear hrow6 hnn hlen HNe HN hfz hlen2
                go_wp2_with fail
                go_roundg (l.length - (i + 1))
                case measure => omega
                case rel => exact ⟨i + 1, _, by omega, by go_num, HSt, by rw [HLn.out]; omega, ⟨_, _, by rw [HLn.out]⟩⟩
    · have hil : i = l.length := by omega
      subst hil
      have HF : Hid (Form (tns (mergeR ss)) (turnOf (tns l)) ∧ Touch (fun _ => False) w wo) := by
        refine ⟨clean_form ?_ H.out.sorted, H.out.nw.touch⟩
        have := H.out.perm
        rwa [List.take_length] at this
      have HS : Hid (SlR wo (.slice ao3 ss.length cap3) ss) := H.out.nw.sl
      clear H
      go_wp2_with fail
      go_loopg [9, 10] ss.length (fun g s9 s10 wx => ∃ (j : Nat) (o : List Rg), j + g = ss.length ∧ s10 = .int .i64 (j : Int) ∧ Hid (NewR wo wx s9 o ∧ Joined6 ss j o) ∧ o.length ≤ j ∧ ∃ ao cap, s9 = .slice ao o.length cap)
      case atStart => exact ⟨0, [], by omega, rfl, ⟨NewR.nil wo wo (Touch.refl _ _), .inl ⟨rfl, rfl⟩⟩, Nat.le_refl _, ⟨_, _, rfl⟩⟩
      case round =>
        obtain ⟨j, o, hjg, rfl, H, hoj, ⟨ao9, cap9, rfl⟩⟩ := hrel
        obtain ⟨wx, hwx⟩ : ∃ wx, wx = wr := ⟨_, rfl⟩
        subst hwx
        by_cases hlt2 : j < ss.length
        · have hne : ss ≠ [] := by rintro rfl; simp at hlt2
          obtain ⟨b3, o3, cp3, e3, _, _, hb3, hrow3⟩ := (HS.out.touch H.out.1.touch).row hne
          obtain ⟨rfl, _, rfl⟩ : ao3 = some ⟨b3, o3, none⟩ ∧ True ∧ cap3 = cp3 := by simpa using e3
          obtain ⟨c0, c1, c2⟩ := hrow3 j hlt2
          have i3 : (j : Int) < (ss.length : Int) := by omega
          have i4 : (0 : Int) ≤ (j : Int) := by omega
          clear hrow3 e3 hne
          by_cases ho : o = []
          · subst ho
            have hj0 : j = 0 := by
              rcases H.out.2 with ⟨_, h⟩ | ⟨p, x, h, _⟩
              · exact h
              · simp at h
            have HN : Hid (NewR wo wx (.slice ao9 0 cap9) []) := H.out.1
            have HJ : Hid (Joined6 ss (j + 1) [ss[j]]) := by subst hj0; exact Joined6.fresh hlt2
            clear hj0
            generalize ss[j] = r at *
            obtain ⟨rc, rf, rt⟩ := r
            simp only [List.length_nil] at *
            clear H
            go_wp2_with fail
            go_quiet (fail)
            obtain ⟨v5, w5, hrun, hN5, _⟩ := NewR.app1 (HN.out.on (⟨rfl, rfl, rfl, Nat.le_refl _, fun _ _ _ => rfl⟩ : Touch (fun _ => False) wx (wx.drewN nq))) ⟨rc, rf, rt⟩ (by simp)
            have hrun2 : (Builtin.append_ #[56, 56] 56 #[.slice ao9 0 cap9, .slice (some ⟨wx.heap.size, 0, none⟩) 1 1]).run Tryz.prog ((wx.alloc (rgO ⟨rc, rf, rt⟩)).drewN nq) = .ok v5 w5 := hrun
            have HQ : Hid (NewR wo w5 v5 [⟨rc, rf, rt⟩]) := hN5
            obtain ⟨ao5, cap5, hv5, _⟩ := hN5.shape
            subst hv5
            simp only [List.nil_append, List.length_singleton] at *
            clear hrun hN5
            go_wp2_with (at_builtin; refine wpList_append_runR rfl _ _ rfl _ _ _ rfl rfl hrun2 ?_)
            go_roundg (ss.length - (j + 1))
            case measure => omega
            case rel => exact ⟨j + 1, _, by omega, by go_num, ⟨HQ.out, HJ.out⟩, by simp, ⟨_, _, rfl⟩⟩
          · obtain ⟨p, x, hpx, hmg⟩ : ∃ p x, o = p ++ [x] ∧ mergeR ss = p ++ mergeFrom x (ss.drop j) := by
              rcases H.out.2 with ⟨h, _⟩ | h
              · exact absurd h ho
              · exact h
            subst hpx
            have hl9 : (p ++ [x]).length = p.length + 1 := by simp
            have HN : Hid (NewR wo wx (.slice ao9 (p ++ [x]).length cap9) (p ++ [x])) := H.out.1
            obtain ⟨b9, o9, cp9, e9, _, _, hb9, hrow9⟩ := H.out.1.sl.row ho
            obtain ⟨ao9', cap9', e9', hg9, _, _⟩ := H.out.1.shape
            obtain ⟨g9, hg9'⟩ := hg9 (by rw [hl9]; omega)
            simp only [Value.slice.injEq] at e9 e9'
            obtain ⟨rfl, _, rfl⟩ := e9'
            subst hg9'
            simp only [Option.some.injEq, Addr.mk.injEq] at e9
            obtain ⟨⟨rfl, rfl, _⟩, _, rfl⟩ := e9
            obtain ⟨x0, x1, x2⟩ := hrow9 p.length (by rw [hl9]; omega)
            simp only [List.getElem_concat_length, Nat.zero_add] at x0 x1 x2
            have hfz : wx.frozen? ⟨g9, p.length * 3 + 2, none⟩ = false := H.out.1.free rfl (by rw [hl9]; omega) _
            have i1 : IntKind.i64.wrap (p.length : Int) = (p.length : Int) := by simp [IntKind.wrap, IntKind.bits, IntKind.signed]; omega
            have i5 : (0 : Int) ≤ (p.length : Int) := by omega
            have i6 : (p.length : Int) < (p.length : Int) + 1 := by omega
            have HGap : Hid ((ss[j].c ≠ x.c ∨ x.t < ss[j].f) → Joined6 ss (j + 1) ((p ++ [x]) ++ [ss[j]])) := Joined6.gap hmg hlt2
            have HOn : Hid (¬ (ss[j].c ≠ x.c ∨ x.t < ss[j].f) → Joined6 ss (j + 1) (p ++ [⟨x.c, x.f, max x.t ss[j].t⟩])) := Joined6.on hmg hlt2
            rw [hl9] at hoj ⊢
            clear hrow9 hmg H ho
            generalize ss[j] = r at *
            obtain ⟨rc, rf, rt⟩ := r
            obtain ⟨xc, xf, xt⟩ := x
            simp only at *
            by_cases hc : xc = rc
            · subst hc
              by_cases hf : rf ≤ xt
              · have HJ : Hid (Joined6 ss (j + 1) (p ++ [⟨xc, xf, max xt rt⟩])) := HOn.out (by simp; omega)
                have HSt : Hid (∀ q, NewR wo ((wx.drewN q).setCell ⟨g9, p.length * 3 + 2, none⟩ (.int .u64 (max xt rt))) (.slice (some ⟨g9, 0, none⟩) (p.length + 1) cap9) (p ++ [⟨xc, xf, max xt rt⟩])) := by
                  intro q
                  have h0 := HN.out.on (show Touch (fun _ => False) wx (wx.drewN q) from ⟨rfl, rfl, rfl, Nat.le_refl _, fun _ _ _ => rfl⟩)
                  have h1 := OwnR.set h0 rfl (p.length * 3 + 2) (by rw [hl9]; omega) (.int .u64 (max xt rt)) rfl
                  have hx := cellsR_to (p ++ [(⟨xc, xf, xt⟩ : Rg)]) p.length (by simp) (max xt rt)
                  simp only [List.getElem_concat_length] at hx
                  rw [hx] at h1
                  have e : (p ++ [(⟨xc, xf, xt⟩ : Rg)]).set p.length ⟨xc, xf, max xt rt⟩ = p ++ [⟨xc, xf, max xt rt⟩] := by simp
                  rw [e, hl9] at h1
                  show OwnR _ _ _ _ _
                  rw [show (p ++ [(⟨xc, xf, max xt rt⟩ : Rg)]).length = p.length + 1 from by simp]
                  exact h1
                have hl5 : (p ++ [(⟨xc, xf, max xt rt⟩ : Rg)]).length = p.length + 1 := by simp
                have HL5 : Hid ((p ++ [(⟨xc, xf, max xt rt⟩ : Rg)]).length = p.length + 1) := hl5
                clear HGap HOn HN hl5 hl9
                go_wp2_with fail
                go_quiet (fail)
                go_wp2_with fail
                go_region
                all_goals (try go_wp2_with fail)
                all_goals (go_roundg (ss.length - (j + 1)))
                all_goals (first | (case measure => omega) | skip)
                all_goals exact ⟨j + 1, _, by omega, by go_num, ⟨HSt.out _, HJ.out⟩, by rw [HL5.out]; omega, ⟨_, _, by rw [HL5.out]⟩⟩
              · have HJ : Hid (Joined6 ss (j + 1) ((p ++ [(⟨xc, xf, xt⟩ : Rg)]) ++ [(⟨xc, rf, rt⟩ : Rg)])) := HGap.out (by simp; omega)
                clear HGap HOn
                go_wp2_with fail
                go_quiet (fail)
                obtain ⟨v5, w5, hrun, hN5, _⟩ := NewR.app1 (HN.out.on (⟨rfl, rfl, rfl, Nat.le_refl _, fun _ _ _ => rfl⟩ : Touch (fun _ => False) wx (wx.drewN nq))) ⟨xc, rf, rt⟩ (by rw [hl9]; omega)
                rw [hl9] at hrun
                have hrun2 : (Builtin.append_ #[56, 56] 56 #[.slice (some ⟨g9, 0, none⟩) (p.length + 1) cap9, .slice (some ⟨wx.heap.size, 0, none⟩) 1 1]).run Tryz.prog ((wx.alloc (rgO ⟨xc, rf, rt⟩)).drewN nq) = .ok v5 w5 := hrun
                have HQ : Hid (NewR wo w5 v5 ((p ++ [(⟨xc, xf, xt⟩ : Rg)]) ++ [(⟨xc, rf, rt⟩ : Rg)])) := hN5
                have hl5 : ((p ++ [(⟨xc, xf, xt⟩ : Rg)]) ++ [(⟨xc, rf, rt⟩ : Rg)]).length = p.length + 1 + 1 := by simp
                obtain ⟨ao5, cap5, hv5, _⟩ := hN5.shape
                rw [hl5] at hv5
                subst hv5
                clear hrun hN5
                go_wp2_with (at_builtin; refine wpList_append_runR rfl _ _ rfl _ _ _ rfl rfl hrun2 ?_)
                go_roundg (ss.length - (j + 1))
                case measure => omega
                case rel => exact ⟨j + 1, _, by omega, by go_num, ⟨HQ.out, HJ.out⟩, by rw [hl5]; omega, ⟨_, _, by rw [hl5]⟩⟩
            · have HJ : Hid (Joined6 ss (j + 1) ((p ++ [(⟨xc, xf, xt⟩ : Rg)]) ++ [(⟨rc, rf, rt⟩ : Rg)])) := HGap.out (by simp; omega)
              clear HGap HOn
              go_wp2_with fail
              go_quiet (fail)
              obtain ⟨v5, w5, hrun, hN5, _⟩ := NewR.app1 (HN.out.on (⟨rfl, rfl, rfl, Nat.le_refl _, fun _ _ _ => rfl⟩ : Touch (fun _ => False) wx (wx.drewN nq))) ⟨rc, rf, rt⟩ (by rw [hl9]; omega)
              rw [hl9] at hrun
              have hrun2 : (Builtin.append_ #[56, 56] 56 #[.slice (some ⟨g9, 0, none⟩) (p.length + 1) cap9, .slice (some ⟨wx.heap.size, 0, none⟩) 1 1]).run Tryz.prog ((wx.alloc (rgO ⟨rc, rf, rt⟩)).drewN nq) = .ok v5 w5 := hrun
              have HQ : Hid (NewR wo w5 v5 ((p ++ [(⟨xc, xf, xt⟩ : Rg)]) ++ [(⟨rc, rf, rt⟩ : Rg)])) := hN5
              have hl5 : ((p ++ [(⟨xc, xf, xt⟩ : Rg)]) ++ [(⟨rc, rf, rt⟩ : Rg)]).length = p.length + 1 + 1 := by simp
              obtain ⟨ao5, cap5, hv5, _⟩ := hN5.shape
              rw [hl5] at hv5
              subst hv5
              clear hrun hN5
              go_wp2_with (at_builtin; refine wpList_append_runR rfl _ _ rfl _ _ _ rfl rfl hrun2 ?_)
              go_roundg (ss.length - (j + 1))
              case measure => omega
              case rel => exact ⟨j + 1, _, by omega, by go_num, ⟨HQ.out, HJ.out⟩, by rw [hl5]; omega, ⟨_, _, by rw [hl5]⟩⟩
        · have hjl : j = ss.length := by omega
          subst hjl
          have HQ : Hid (NewR w wx (.slice ao9 o.length cap9) o ∧ Form (tns o) (turnOf (tns l)) ∧ o.length ≤ l.length) := ⟨H.out.1.since HF.out.2, by rw [← H.out.2.done]; exact HF.out.1, by omega⟩
          clear H
          go_wp2_with fail
          refine bodyPost_ret (v := .slice ao9 o.length cap9) (by simp [results, Tryz.results34, go_sem]) rfl ?_
          exact ⟨_, _, rfl, HQ.out⟩
end Go.Proofs.YtphcnjbiojdalaaGreatDoor
