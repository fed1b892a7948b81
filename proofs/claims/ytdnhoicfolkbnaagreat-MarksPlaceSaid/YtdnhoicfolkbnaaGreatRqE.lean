/- The document's tree of units (quireref9): Less, Right, farther. -/
import Derived.Test.YtdnhoicfolkbnaaGreatPart28
import Derived.Deep.DeepCutAuto
namespace Go.Proofs.YtdnhoicfolkbnaaGreat
open Go.RowKit
set_option linter.unusedVariables false
set_option linter.unusedSimpArgs false
set_option maxRecDepth 100000

set_option maxHeartbeats 800000 in
theorem rless_any (a b c d : Int) (w : World) : Calls Tryz.prog 51 #[idV a b, idV c d] w fun e w' => e = .returned (.bool (lessI a b c d)) ∧ w' = (w.alloc (idO a b)).alloc (idO c d) := by
  unfold lessI
  by_cases h1 : a = c
  · subst h1
    rw [if_pos rfl]
    go_enter Tryz.func51, Tryz.ntmps51
    go_wp2_with fail
    go_ret
    exact ⟨by simp, rfl⟩
  · rw [if_neg h1]
    by_cases h2 : a < c
    · go_enter Tryz.func51, Tryz.ntmps51
      go_wp2_with fail
      go_ret
      exact ⟨by simp [h2], rfl⟩
    · go_enter Tryz.func51, Tryz.ntmps51
      go_wp2_with fail
      go_ret
      exact ⟨by simp; omega, rfl⟩
set_option maxHeartbeats 800000 in
theorem rRight_any (c k : Int) (w : World) : Calls Tryz.prog 59 #[idV c k] w fun e w' => e = .returned (.bool (numOk c && numOk k)) ∧ w' = w.alloc (idO c k) := by
  unfold numOk
  by_cases h1 : 1 ≤ c
  · by_cases h2 : c ≤ 9007199254740991
    · by_cases h3 : 1 ≤ k
      · by_cases h4 : k ≤ 9007199254740991
        · go_enter Tryz.func59, Tryz.ntmps59
          go_wp2_with fail
          go_ret
          exact ⟨by simp [h1, h2, h3, h4], rfl⟩
        · go_enter Tryz.func59, Tryz.ntmps59
          go_wp2_with fail
          go_ret
          exact ⟨by simp [h1, h2, h3, h4], rfl⟩
      · go_enter Tryz.func59, Tryz.ntmps59
        go_wp2_with fail
        go_ret
        exact ⟨by simp; omega, rfl⟩
    · go_enter Tryz.func59, Tryz.ntmps59
      go_wp2_with fail
      go_ret
      exact ⟨by simp; omega, rfl⟩
  · go_enter Tryz.func59, Tryz.ntmps59
    go_wp2_with fail
    go_ret
    exact ⟨by simp; omega, rfl⟩
set_option maxHeartbeats 8000000 in
theorem qfarther_any {w : World} {b : Nat} {r : RS} (h : RqAt w b r) (x y : Nat) (hx : x < r.l.length) (hy : y < r.l.length) (hl : r.l.length ≤ 1073741824) (ho : r.order.length ≤ 1073741824) :
    Calls Tryz.prog 106 #[qP b, iV (x : Int), iV (y : Int)] w fun e w' => e = .returned (.bool (r.farther x y)) ∧ Touch (fun _ => False) w w' := by
  have HC : Hid (∀ W, Touch (fun _ => False) w W → ∃ g cap, W.cell? ⟨b, 0, none⟩ = some (.slice (some ⟨g, 0, none⟩) r.l.length cap) ∧ NdCells W g x (r.nd x) ∧ NdCells W g y (r.nd y)) := fun W t => by
    obtain ⟨ao, cap, h1, h2⟩ := (h.keep t).nodes
    obtain ⟨g, rfl, h3⟩ := h2 (by omega)
    exact ⟨g, cap, h1, h3 x hx, h3 y hy⟩
  have HO : Hid (∃ ao cap, w.cell? ⟨b, 2, none⟩ = some (.slice ao r.order.length cap)) := by
    obtain ⟨v, o1, o2⟩ := h.ord
    obtain ⟨bo, cap', rfl, o3⟩ := o2.nums
    exact ⟨_, _, o1⟩
  have HX : Hid (∀ W, Touch (fun _ => False) w W → Calls Tryz.prog 37 #[qP b, .agg #[u64 (r.nd x).u.rc, u64 (r.nd x).u.rk]] W fun e w' => e = .returned (iV (r.findP (r.nd x).u.rc (r.nd x).u.rk)) ∧ Touch (fun _ => False) W w') := fun W t => qfindP_any (h.keep t) _ _ hl ho
  have HY : Hid (∀ W, Touch (fun _ => False) w W → Calls Tryz.prog 37 #[qP b, .agg #[u64 (r.nd y).u.rc, u64 (r.nd y).u.rk]] W fun e w' => e = .returned (iV (r.findP (r.nd y).u.rc (r.nd y).u.rk)) ∧ Touch (fun _ => False) W w') := fun W t => qfindP_any (h.keep t) _ _ hl ho
  have HL : Hid (∀ W, Calls Tryz.prog 51 #[.agg #[u64 (r.nd x).u.c, u64 (r.nd x).u.k], .agg #[u64 (r.nd y).u.c, u64 (r.nd y).u.k]] W fun e w' => e = .returned (.bool (lessI (r.nd x).u.c (r.nd x).u.k (r.nd y).u.c (r.nd y).u.k)) ∧ Touch (fun _ => False) W w') := fun W => (rless_any _ _ _ _ W).mono (by rintro e w2 ⟨rfl, rfl⟩; exact ⟨rfl, ((Touch.refl _ _).alloc _).alloc _⟩)
  unfold RS.farther RS.far
  have lx : (x : Int) < (r.l.length : Int) := by omega
  have ly : (y : Int) < (r.l.length : Int) := by omega
  clear h hx hy
  generalize lessI (r.nd x).u.c (r.nd x).u.k (r.nd y).u.c (r.nd y).u.k = ls at *
  generalize r.findP (r.nd x).u.rc (r.nd x).u.rk = fx at *
  generalize r.findP (r.nd y).u.rc (r.nd y).u.rk = fy at *
  generalize r.nd x = nx at *
  generalize r.nd y = ny at *
  generalize r.l.length = n at *
  generalize r.order.length = o at *
  obtain ⟨⟨xc, xk, xlc, xlk, xrc, xrk⟩, xp, xl, xls, xm⟩ := nx
  obtain ⟨⟨yc, yk, ylc, ylk, yrc, yrk⟩, yp, yl, yls, ym⟩ := ny
  simp only at HX HY HL ⊢
  obtain ⟨vx, hvx⟩ : ∃ v, Hid (v = if xrc = 0 ∧ xrk = 0 then (o : Int) + 1 else fx) := ⟨_, Eq.refl _⟩
  obtain ⟨vy, hvy⟩ : ∃ v, Hid (v = if yrc = 0 ∧ yrk = 0 then (o : Int) + 1 else fy) := ⟨_, Eq.refl _⟩
  rw [← hvx.out, ← hvy.out]
  obtain ⟨res, hres⟩ : ∃ v : Bool, Hid (v = if vx ≠ vy then decide (vy < vx) else ls) := ⟨_, Eq.refl _⟩
  rw [← hres.out]
  go_enter Tryz.func106, Tryz.ntmps106
  go_upto_region 1 with fail
  go_cut [7, 8] (fun t s wx => t = iV ((o : Int) + 1) ∧ s = iV ((o : Int) + 1) ∧ Hid (Touch (fun _ => False) w wx))
  case first =>
    obtain ⟨ao, cap, o1⟩ := HO.out
    go_quiet (fail)
    go_wp2_with fail
    go_meet
    case rel => exact ⟨by go_num, by go_num, (Touch.refl _ w).drewN _⟩
  case rest =>
    obtain ⟨rfl, rfl, HT1⟩ := hcut
    obtain ⟨w1, hw1⟩ : ∃ we, we = wc := ⟨_, rfl⟩
    subst hw1
    obtain ⟨g1, cap1, q1, cx, -⟩ := HC.out _ HT1.out
    have x4 := cx.c4
    have x5 := cx.c5
    clear cx
    simp only at x4 x5
    obtain ⟨V1, hV1⟩ : ∃ E, Hid (E = w1.alloc (idO xrc xrk)) := ⟨_, Eq.refl _⟩
    have HV1 : Hid (Touch (fun _ => False) w V1) := by rw [hV1.out]; exact HT1.out.alloc _
    obtain ⟨b0, b1⟩ := idO_cells (W := V1) (n := w1.heap.size) (c := xrc) (k := xrk) (by rw [hV1.out]; exact heap_alloc_new w1 _)
    go_upto_region 3 with fail
    rw [← hV1.out]
    clear hV1 q1 x4 x5
    generalize w1.heap.size = B1 at *
    go_cut [34] (fun t wx => t = .bool (!(xrc == 0 && xrk == 0)) ∧ wx = V1)
    case first =>
      cases e1 : (xrc == 0) with
      | false =>
        go_wp2_with fail
        go_meet
        case rel => exact ⟨by rw [e1]; rfl, rfl⟩
      | true =>
        cases e2 : (xrk == 0) with
        | false =>
          go_wp2_with fail
          go_meet
          case rel => exact ⟨by rw [e1, e2]; rfl, rfl⟩
        | true =>
          go_wp2_with fail
          go_meet
          case rel => exact ⟨by rw [e1, e2]; rfl, rfl⟩
    case rest =>
      obtain ⟨rfl, hwc⟩ := hcut
      rw [hwc]
      clear hwc
      go_upto_if 34 with fail
      go_cut [7] (fun t wx => t = iV vx ∧ Hid (Touch (fun _ => False) w wx))
      case first =>
        cases e1 : (!(xrc == 0 && xrk == 0)) with
        | true =>
          have HW : Hid (vx = fx) := by rw [hvx.out]; exact if_neg (fun h => by simp [h.1, h.2] at e1)
          go_wp2_with fail
          refine (HX.out _ HV1.out).mono ?_
          rintro e w3 ⟨rfl, t3⟩
          go_wp2_with fail
          go_meet
          case rel => exact ⟨congrArg iV HW.out.symm, HV1.out.trans t3⟩
        | false =>
          have HW : Hid (vx = (o : Int) + 1) := by rw [hvx.out]; exact if_pos (by simpa using e1)
          go_wp2_with fail
          go_meet
          case rel => exact ⟨congrArg iV HW.out.symm, HV1.out⟩
      case rest =>
        obtain ⟨rfl, HU1⟩ := hcut
        obtain ⟨U1, hu1⟩ : ∃ we, we = wc := ⟨_, rfl⟩
        subst hu1
        clear HV1 b0 b1 hvx
        obtain ⟨g2, cap2, q1, -, cx⟩ := HC.out _ HU1.out
        have x4 := cx.c4
        have x5 := cx.c5
        clear cx
        simp only at x4 x5
        obtain ⟨V2, hV2⟩ : ∃ E, Hid (E = U1.alloc (idO yrc yrk)) := ⟨_, Eq.refl _⟩
        have HV2 : Hid (Touch (fun _ => False) w V2) := by rw [hV2.out]; exact HU1.out.alloc _
        obtain ⟨b0, b1⟩ := idO_cells (W := V2) (n := U1.heap.size) (c := yrc) (k := yrk) (by rw [hV2.out]; exact heap_alloc_new U1 _)
        go_upto_region 6 with fail
        rw [← hV2.out]
        clear hV2 q1 x4 x5
        generalize U1.heap.size = B2 at *
        go_cut [49] (fun t wx => t = .bool (!(yrc == 0 && yrk == 0)) ∧ wx = V2)
        case first =>
          cases e1 : (yrc == 0) with
          | false =>
            go_wp2_with fail
            go_meet
            case rel => exact ⟨by rw [e1]; rfl, rfl⟩
          | true =>
            cases e2 : (yrk == 0) with
            | false =>
              go_wp2_with fail
              go_meet
              case rel => exact ⟨by rw [e1, e2]; rfl, rfl⟩
            | true =>
              go_wp2_with fail
              go_meet
              case rel => exact ⟨by rw [e1, e2]; rfl, rfl⟩
        case rest =>
          obtain ⟨rfl, hwc⟩ := hcut
          rw [hwc]
          clear hwc
          go_upto_if 49 with fail
          go_cut [8] (fun t wx => t = iV vy ∧ Hid (Touch (fun _ => False) w wx))
          case first =>
            cases e1 : (!(yrc == 0 && yrk == 0)) with
            | true =>
              have HW : Hid (vy = fy) := by rw [hvy.out]; exact if_neg (fun h => by simp [h.1, h.2] at e1)
              go_wp2_with fail
              refine (HY.out _ HV2.out).mono ?_
              rintro e w3 ⟨rfl, t3⟩
              go_wp2_with fail
              go_meet
              case rel => exact ⟨congrArg iV HW.out.symm, HV2.out.trans t3⟩
            | false =>
              have HW : Hid (vy = (o : Int) + 1) := by rw [hvy.out]; exact if_pos (by simpa using e1)
              go_wp2_with fail
              go_meet
              case rel => exact ⟨congrArg iV HW.out.symm, HV2.out⟩
          case rest =>
            obtain ⟨rfl, HU2⟩ := hcut
            obtain ⟨U2, hu2⟩ : ∃ we, we = wc := ⟨_, rfl⟩
            subst hu2
            clear HV2 b0 b1 hvy
            cases e3 : (vx == vy) with
            | false =>
              have HR : Hid (res = decide (vy < vx)) := by rw [hres.out]; exact if_pos (fun h => by simp [h] at e3)
              go_wp2_with fail
              go_ret
              exact ⟨congrArg (fun z => Ending.returned (.bool z)) HR.out.symm, HU2.out⟩
            | true =>
              have HR : Hid (res = ls) := by rw [hres.out]; exact if_neg (fun h => h (by simpa using e3))
              obtain ⟨g3, cap3, q1, cx, cy⟩ := HC.out _ HU2.out
              have x0 := cx.c0
              have x1 := cx.c1
              have y0 := cy.c0
              have y1 := cy.c1
              clear cx cy
              simp only at x0 x1 y0 y1
              go_wp2_with fail
              go_region_with (go_at_call 51; (with_reducible refine (HL.out _).mono ?_); rintro e w9 ⟨rfl, t9⟩)
              all_goals (try go_wp2_with fail)
              all_goals (try go_ret)
              all_goals exact ⟨congrArg (fun z => Ending.returned (.bool z)) HR.out.symm, (HU2.out.drew).trans t9⟩
end Go.Proofs.YtdnhoicfolkbnaaGreat
