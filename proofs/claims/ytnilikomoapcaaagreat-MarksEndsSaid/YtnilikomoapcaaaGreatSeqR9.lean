/- Package seq's row: ahead, the walk. -/
import Derived.Test.YtnilikomoapcaaaGreatPart4
namespace Go.Proofs.YtnilikomoapcaaaGreat
open Go.RowKit
set_option linter.unusedVariables false
set_option linter.unusedSimpArgs false
set_option maxRecDepth 100000

theorem Touch.stored {w W : World} {B : Nat} (t : Touch (fun _ => False) w W) (hB : w.heap.size ≤ B) (k : Nat) (vs : List Value) : Touch (fun _ => False) w (W.setCells B k vs) := by
  have key : ∀ (vs : List Value) (k : Nat) (W : World), Touch (fun _ => False) w W → Touch (fun _ => False) w (W.setCells B k vs) := by
    intro vs
    induction vs with
    | nil => intro k W t; exact t
    | cons v r ih =>
      intro k W t
      rw [World.setCells]
      exact ih (k + 1) _ (t.setCell ⟨B, k, none⟩ v (fun h => absurd h (by show ¬ B < _; omega)))
  exact key vs k W t
theorem ite_of_pos {c : Prop} [Decidable c] {X Y : Prop} (hc : c) (h : X) : if c then X else Y := by rw [if_pos hc]; exact h
theorem thing_there {W : World} {B : Nat} {x : Array Value} (h : W.heap[B]? = some (.cells x 111 (0, 0))) (hx : x.size = 5) : W.there B 0 5 := fun j hj => by
  refine ⟨?_, free_of_block h⟩
  rw [cell_of_block h, Array.getElem?_eq_getElem (by omega)]
  rfl
theorem thing_stored {W : World} {a b c d e : Value} (x : Array Value) (hx : x.size = 5) : (((W.alloc (.cells #[a, b, c, d, e] 111))).setCells W.heap.size 0 x.toList).heap[W.heap.size]? = some (.cells x 111 (0, 0)) := by
  obtain ⟨l⟩ := x
  match l, hx with
  | [p, q, r, s, t], _ =>
    have h0 := heap_setCell_same (W.alloc (.cells #[a, b, c, d, e] 111)) W.heap.size 0 p (heap_alloc_new _ _)
    have h1 := heap_setCell_same _ W.heap.size 1 q h0
    have h2 := heap_setCell_same _ W.heap.size 2 r h1
    have h3 := heap_setCell_same _ W.heap.size 3 s h2
    have h4 := heap_setCell_same _ W.heap.size 4 t h3
    exact h4
set_option maxHeartbeats 16000000 in
theorem ahead_any {w : World} {b k g cap : Nat} {L : List Th} (h : Things w b k g cap L) (i : Nat) (c : List Fr) (total : Int) (hi : i < L.length) (hi0 : i ≠ 0) (hd : (gt L i).d0 < L.length) (hI : InvA (gt L) L.length total i c (gt L (gt L i).d0).whole) (h0 : 0 < L.length) (hz : (gt L 0).d0 = 0 ∧ (gt L 0).long = 0 ∧ (gt L 0).whole = 0) (hT : Tame (gt L)) (ht : total ≤ 1152921504606846976) :
    Calls Tryz.prog 40 #[rP b k, iV (i : Int)] w fun e w' => e = .returned (iV total) ∧ Touch (fun _ => False) w w' := by
  have HK : Hid (∀ W, Touch (fun _ => False) w W → Things W b k g cap L) := fun W t => h.keep t id id
  have HZ : Hid (((gt L 0).d0 = 0 ∧ (gt L 0).long = 0 ∧ (gt L 0).whole = 0) ∧ 0 < L.length ∧ Tame (gt L)) := ⟨hz, h0, hT⟩
  have HI : Hid (InvA (gt L) L.length total i c (gt L (gt L i).d0).whole) := hI
  have t1 := h.th i hi
  rw [← gt_of hi] at t1
  have t2 := h.th _ hd
  rw [← gt_of hd] at t2
  have q1 := t1.c1
  have q4 := t2.c4
  have hc := h.cell
  have li : (i : Int) < (L.length : Int) := by omega
  have li0 : (0 : Int) ≤ (i : Int) := by omega
  have ld : ((gt L i).d0 : Int) < (L.length : Int) := by omega
  have ld0 : (0 : Int) ≤ ((gt L i).d0 : Int) := by omega
  generalize (gt L (gt L i).d0).whole = a0 at *
  generalize (gt L i).d0 = dd at *
  clear h t1 t2 hd hI hz h0 hT
  go_enter Tryz.func40, Tryz.ntmps40
  go_upto_region 1 with fail
  go_quiet (fail)
  have HT0 : Hid (Touch (fun _ => False) w (w.drewN nq)) := ⟨rfl, rfl, rfl, Nat.le_refl _, fun _ _ _ => rfl⟩
  generalize w.drewN nq = W0 at *
  clear hc q1 q4
  go_wp2_with fail
  go_loopg [1, 5] (c.length + 1) (fun gk s1 s5 wx => ∃ (x : Nat) (c : List Fr) (acc : Int), s1 = iV (x : Int) ∧ s5 = iV acc ∧ Hid (Touch (fun _ => False) w wx) ∧ Hid (InvA (gt L) L.length total x c acc) ∧ Hid ((if x = 0 then 0 else c.length + 1) = gk))
  case atStart => exact ⟨i, c, a0, rfl, rfl, HT0.out, HI.out, if_neg hi0⟩
  case round =>
    obtain ⟨x, c, acc, rfl, rfl, HT, HV, HM⟩ := hrel
    obtain ⟨X0, hX0⟩ : ∃ X, X = wr := ⟨_, rfl⟩
    subst hX0
    by_cases hx : x = 0
    · have e0 : ((x : Int) != 0) = false := by simp [hx]
      have HE : Hid (acc = total) := by
        rcases HV.out.2.2 with ⟨_, _, h⟩ | ⟨h, _⟩
        · exact h
        · exact absurd hx h
      clear hx
      go_wp2_with fail
      go_ret
      exact ⟨by rw [HE.out]; rfl, HT.out⟩
    · have e0 : ((x : Int) != 0) = true := by simp [hx]
      obtain ⟨hxn, hun, hdn, c', acc', hV', hm', hcase⟩ := ahead_step HV.out hx HZ.out.2.1 HZ.out.1 (fun j => (HZ.out.2.2 j).1)
      have HV2 : Hid (InvA (gt L) L.length total (gt L x).up c' acc') := hV'
      have hmm : (if x = 0 then 0 else c.length + 1) = c.length + 1 := if_neg hx
      have hgk : gk = c.length + 1 := by rw [← hmm]; exact HM.out.symm
      have HM2 : Hid ((if (gt L x).up = 0 then 0 else c'.length + 1) = c.length) := hm'
      obtain ⟨cl0, hcl0⟩ : ∃ m, m = c.length := ⟨_, rfl⟩
      rw [← hcl0] at hgk HM2
      have hcell : ∀ W, Touch (fun _ => False) w W → W.cell? ⟨b, k, none⟩ = some (.slice (some ⟨g, 0, none⟩) L.length cap) ∧ W.cell? ⟨g, x * 5, none⟩ = some (iV ((gt L x).up : Int)) ∧ W.rangeAt g ((gt L x).up * 5) [iV (gt L (gt L x).up).up, iV (gt L (gt L x).up).d0, iV (gt L (gt L x).up).d1, iV (gt L (gt L x).up).long, iV (gt L (gt L x).up).whole] ∧ W.cell? ⟨g, (gt L (gt L x).up).d0 * 5 + 4, none⟩ = some (iV (gt L (gt L (gt L x).up).d0).whole) := fun W t => by
        have hW := HK.out W t
        have t1 := hW.th x hxn
        have t2 := hW.th _ hun
        have t3 := hW.th _ hdn
        rw [← gt_of hxn] at t1
        rw [← gt_of hun] at t2
        rw [← gt_of hdn] at t3
        exact ⟨hW.cell, t1.c0, t2.range, t3.c4⟩
      have HCl : Hid _ := hcell
      have HSd : Hid (∀ W, Touch (fun _ => False) w W → Calls Tryz.prog 73 #[rP b k, iV (x : Int)] W fun e w' => e = .returned (iV (sideA (gt L) x : Int)) ∧ Touch (fun _ => False) W w') := fun W t => by
        have e1 : (gt L x).up = (L[x]'hxn).up := by rw [gt_of hxn]
        have hun' : (L[x]'hxn).up < L.length := by rw [← e1]; exact hun
        refine (side_any (HK.out W t) x hxn hun').mono ?_
        rintro e w' ⟨rfl, t⟩
        refine ⟨?_, t⟩
        have : (if (L[L[x].up]'hun').d1 = x then (1 : Int) else 0) = (sideA (gt L) x : Int) := by
          unfold sideA
          rw [gt_of hxn, gt_of hun']
          split <;> rfl
        rw [this]
      have tm1 := HZ.out.2.2 (gt L x).up
      have tm2 := HZ.out.2.2 (gt L (gt L x).up).d0
      have bnd : 0 ≤ acc ∧ acc ≤ total := ⟨HV.out.1, HV.out.2.1⟩
      have lx : (x : Int) < (L.length : Int) := by omega
      have lx0 : (0 : Int) ≤ (x : Int) := by omega
      have lu : ((gt L x).up : Int) < (L.length : Int) := by omega
      have lu0 : (0 : Int) ≤ ((gt L x).up : Int) := by omega
      have lv : ((gt L (gt L x).up).d0 : Int) < (L.length : Int) := by omega
      have lv0 : (0 : Int) ≤ ((gt L (gt L x).up).d0 : Int) := by omega
      clear hcell hV' hm' hmm hcl0 HV HM hxn hun hdn
      generalize (gt L (gt L (gt L x).up).d0).whole = vw at *
      generalize gt L (gt L x).up = tu at *
      generalize (gt L x).up = u at *
      generalize sideA (gt L) x = sd at *
      go_wp2_with fail
      refine (HSd.out _ HT.out).mono ?_
      rintro e X1 ⟨rfl, t⟩
      have HT1 : Hid (Touch (fun _ => False) w X1) := HT.out.trans t
      clear t HT HSd
      rcases hcase with ⟨hs, ha⟩ | ⟨hs, ha⟩
      · subst hs ha
        have hk := HCl.out X1 HT1.out
        have kc := hk.1
        have kx := hk.2.1
        clear hk
        go_wp2_with fail
        go_roundg cl0
        case measure => omega
        case rel => exact ⟨u, c', _, rfl, rfl, HT1.out, HV2.out, HM2.out⟩
      · subst hs
        have HAc : Hid (acc' = acc + (vw + tu.long)) := ha
        clear ha
        go_upto_region 5 with fail
        have HT2 : Hid (Touch (fun _ => False) w X1.drew) := HT1.out.drew
        have hS0 : SAhd b k g cap L.length x u tu X1.drew := ⟨(HCl.out _ HT2.out).1, (HCl.out _ HT2.out).2.1, (HCl.out _ HT2.out).2.2.1⟩
        generalize hn : L.length = n at *
        refine wp_region_held_drew (S := SAhd b k g cap n x u tu) (by kernel_rfl) hS0 (fun hHeld => ?_)
        clear hS0 HT1
        generalize X1.drew = X2 at *
        refine wpAnyH_take (i := 0) (oi := { dst := some 37, op := Go.Op.move (Go.Operand.tmp 0), type := 132, pos := "row.go:59", after := #[], guard := none }) (v := rP b k) rfl (by kernel_rfl) (by kernel_rfl) (by kernel_rfl) (fun _ _ _ h => h) (Or.inl ⟨by rfl, ?_⟩) hHeld ?_
        · intro w hSw; clear hSw; go_simp
        simp only [Act.put, List.setIfInBounds_toArray, List.set_cons_succ, List.set_cons_zero]
        refine wpAnyH_take (i := 1) (oi := { dst := some 38, op := Go.Op.nilCheck (Go.Operand.tmp 37), type := 0, pos := "row.go:59", after := #[{ on := 0, ground := Go.Ground.data }], guard := none }) (v := .pointer (some ⟨b, k, none⟩)) rfl (by kernel_rfl) (by kernel_rfl) (by kernel_rfl) (fun _ _ _ h => h) (Or.inl ⟨by rfl, ?_⟩) hHeld ?_
        · intro w hSw; clear hSw; go_simp
        simp only [Act.put, List.setIfInBounds_toArray, List.set_cons_succ, List.set_cons_zero]
        refine wpAnyH_take (i := 2) (oi := { dst := some 39, op := Go.Op.fieldAddr 71 (Go.Operand.tmp 38) 0, type := 0, pos := "row.go:59", after := #[{ on := 1, ground := Go.Ground.data }], guard := none }) (v := .pointer (some ⟨b, k, none⟩)) rfl (by kernel_rfl) (by kernel_rfl) (by kernel_rfl) (fun _ _ _ h => h) (Or.inl ⟨by rfl, ?_⟩) hHeld ?_
        · intro w hSw; clear hSw; go_simp
        simp only [Act.put, List.setIfInBounds_toArray, List.set_cons_succ, List.set_cons_zero]
        refine wpAnyH_take (i := 3) (oi := { dst := some 40, op := Go.Op.load 69 (Go.Operand.tmp 39), type := 69, pos := "row.go:59", after := #[{ on := 2, ground := Go.Ground.data }], guard := none }) (v := .slice (some ⟨g, 0, none⟩) n cap) rfl (by kernel_rfl) (by kernel_rfl) (by kernel_rfl) (fun _ _ _ h => h) (Or.inl ⟨by rfl, ?_⟩) hHeld ?_
        · intro w hSw; obtain ⟨s1, s2, s3⟩ := hSw; go_simp
        simp only [Act.put, List.setIfInBounds_toArray, List.set_cons_succ, List.set_cons_zero]
        refine wpAnyH_take (i := 4) (oi := { dst := some 41, op := Go.Op.move (Go.Operand.tmp 0), type := 132, pos := "row.go:59", after := #[], guard := none }) (v := rP b k) rfl (by kernel_rfl) (by kernel_rfl) (by kernel_rfl) (fun _ _ _ h => h) (Or.inl ⟨by rfl, ?_⟩) hHeld ?_
        · intro w hSw; clear hSw; go_simp
        simp only [Act.put, List.setIfInBounds_toArray, List.set_cons_succ, List.set_cons_zero]
        refine wpAnyH_take (i := 5) (oi := { dst := some 42, op := Go.Op.nilCheck (Go.Operand.tmp 41), type := 0, pos := "row.go:59", after := #[{ on := 4, ground := Go.Ground.data }], guard := none }) (v := .pointer (some ⟨b, k, none⟩)) rfl (by kernel_rfl) (by kernel_rfl) (by kernel_rfl) (fun _ _ _ h => h) (Or.inl ⟨by rfl, ?_⟩) hHeld ?_
        · intro w hSw; clear hSw; go_simp
        simp only [Act.put, List.setIfInBounds_toArray, List.set_cons_succ, List.set_cons_zero]
        refine wpAnyH_take (i := 6) (oi := { dst := some 43, op := Go.Op.fieldAddr 71 (Go.Operand.tmp 42) 0, type := 0, pos := "row.go:59", after := #[{ on := 5, ground := Go.Ground.data }], guard := none }) (v := .pointer (some ⟨b, k, none⟩)) rfl (by kernel_rfl) (by kernel_rfl) (by kernel_rfl) (fun _ _ _ h => h) (Or.inl ⟨by rfl, ?_⟩) hHeld ?_
        · intro w hSw; clear hSw; go_simp
        simp only [Act.put, List.setIfInBounds_toArray, List.set_cons_succ, List.set_cons_zero]
        refine wpAnyH_take (i := 7) (oi := { dst := some 44, op := Go.Op.load 69 (Go.Operand.tmp 43), type := 69, pos := "row.go:59", after := #[{ on := 6, ground := Go.Ground.data }], guard := none }) (v := .slice (some ⟨g, 0, none⟩) n cap) rfl (by kernel_rfl) (by kernel_rfl) (by kernel_rfl) (fun _ _ _ h => h) (Or.inl ⟨by rfl, ?_⟩) hHeld ?_
        · intro w hSw; obtain ⟨s1, s2, s3⟩ := hSw; go_simp
        simp only [Act.put, List.setIfInBounds_toArray, List.set_cons_succ, List.set_cons_zero]
        refine wpAnyH_take (i := 8) (oi := { dst := some 45, op := Go.Op.move (Go.Operand.tmp 1), type := 3, pos := "row.go:59", after := #[], guard := none }) (v := iV (x : Int)) rfl (by kernel_rfl) (by kernel_rfl) (by kernel_rfl) (fun _ _ _ h => h) (Or.inl ⟨by rfl, ?_⟩) hHeld ?_
        · intro w hSw; clear hSw; go_simp
        simp only [Act.put, List.setIfInBounds_toArray, List.set_cons_succ, List.set_cons_zero]
        refine wpAnyH_take (i := 9) (oi := { dst := some 46, op := Go.Op.indexAddr 69 (Go.Operand.tmp 44) (Go.Operand.tmp 45), type := 0, pos := "row.go:59", after := #[{ on := 7, ground := Go.Ground.data }, { on := 8, ground := Go.Ground.data }], guard := none }) (v := .pointer (some ⟨g, x * 5, none⟩)) rfl (by kernel_rfl) (by kernel_rfl) (by kernel_rfl) (fun _ _ _ h => h) (Or.inl ⟨by rfl, ?_⟩) hHeld ?_
        · intro w hSw; clear hSw; go_simp
        simp only [Act.put, List.setIfInBounds_toArray, List.set_cons_succ, List.set_cons_zero]
        refine wpAnyH_take (i := 10) (oi := { dst := some 47, op := Go.Op.fieldAddr 111 (Go.Operand.tmp 46) 0, type := 0, pos := "row.go:59", after := #[{ on := 9, ground := Go.Ground.data }], guard := none }) (v := .pointer (some ⟨g, x * 5, none⟩)) rfl (by kernel_rfl) (by kernel_rfl) (by kernel_rfl) (fun _ _ _ h => h) (Or.inl ⟨by rfl, ?_⟩) hHeld ?_
        · intro w hSw; clear hSw; go_simp
        simp only [Act.put, List.setIfInBounds_toArray, List.set_cons_succ, List.set_cons_zero]
        refine wpAnyH_take (i := 11) (oi := { dst := some 48, op := Go.Op.load 3 (Go.Operand.tmp 47), type := 3, pos := "row.go:59", after := #[{ on := 10, ground := Go.Ground.data }], guard := none }) (v := iV (u : Int)) rfl (by kernel_rfl) (by kernel_rfl) (by kernel_rfl) (fun _ _ _ h => h) (Or.inl ⟨by rfl, ?_⟩) hHeld ?_
        · intro w hSw; obtain ⟨s1, s2, s3⟩ := hSw; go_simp
        simp only [Act.put, List.setIfInBounds_toArray, List.set_cons_succ, List.set_cons_zero]
        refine wpAnyH_take (i := 12) (oi := { dst := some 49, op := Go.Op.indexAddr 69 (Go.Operand.tmp 40) (Go.Operand.tmp 48), type := 0, pos := "row.go:59", after := #[{ on := 3, ground := Go.Ground.data }, { on := 11, ground := Go.Ground.data }], guard := none }) (v := .pointer (some ⟨g, u * 5, none⟩)) rfl (by kernel_rfl) (by kernel_rfl) (by kernel_rfl) (fun _ _ _ h => h) (Or.inl ⟨by rfl, ?_⟩) hHeld ?_
        · intro w hSw; clear hSw; go_simp
        simp only [Act.put, List.setIfInBounds_toArray, List.set_cons_succ, List.set_cons_zero]
        refine wpAnyH_take (i := 13) (oi := { dst := some 50, op := Go.Op.load 111 (Go.Operand.tmp 49), type := 111, pos := "row.go:59", after := #[{ on := 12, ground := Go.Ground.data }], guard := none }) (v := .agg #[iV tu.up, iV tu.d0, iV tu.d1, iV tu.long, iV tu.whole]) rfl (by kernel_rfl) (by kernel_rfl) (by kernel_rfl) (fun _ _ _ h => h) (yieldsIf_load_mid (by rfl) 111 (.tmp 49) rfl g (u * 5) rfl [iV tu.up, iV tu.d0, iV tu.d1, iV tu.long, iV tu.whole] _ (fun w hw => hw.2.2) Tryz.underlying111 rfl (by kernel_rfl)) hHeld ?_
        simp only [Act.put, List.setIfInBounds_toArray, List.set_cons_succ, List.set_cons_zero]
        refine wpAnyH_ready (rs := [14]) (by kernel_rfl) (by simp) ?_
        refine AllReadyH.cons (o := { dst := some 6, op := Go.Op.alloc 111, type := 0, pos := "row.go:59", after := #[], guard := none }) rfl (fun K hK => ?_) AllReadyH.nil
        go_simp
        obtain ⟨X3, hX3⟩ : ∃ W, Hid (W = X2.alloc (.cells #[iV 0, iV 0, iV 0, iV 0, iV 0] 111)) := ⟨_, Eq.refl _⟩
        have HT3 : Hid (Touch (fun _ => False) w X3) := by rw [hX3.out]; exact HT2.out.alloc _
        have H3 : Hid (X3.heap[X2.heap.size]? = some (.cells #[iV 0, iV 0, iV 0, iV 0, iV 0] 111 (0, 0))) := by rw [hX3.out]; exact heap_alloc_new _ _
        have HS3 : Hid ((X3.setCells X2.heap.size 0 [iV tu.up, iV tu.d0, iV tu.d1, iV tu.long, iV tu.whole]).heap[X2.heap.size]? = some (.cells #[iV tu.up, iV tu.d0, iV tu.d1, iV tu.long, iV tu.whole] 111 (0, 0))) := by rw [hX3.out]; exact thing_stored #[iV tu.up, iV tu.d0, iV tu.d1, iV tu.long, iV tu.whole] rfl
        have HS4 : Hid (Touch (fun _ => False) w (X3.setCells X2.heap.size 0 [iV tu.up, iV tu.d0, iV tu.d1, iV tu.long, iV tu.whole])) := HT3.out.stored HT2.out.size 0 _
        have hS2 : SAhd b k g cap n x u tu X3 := ⟨(HCl.out _ HT3.out).1, (HCl.out _ HT3.out).2.1, (HCl.out _ HT3.out).2.2.1⟩
        rw [← hX3.out]
        refine hK.out _ _ hS2 (fun hHeld => ?_)
        clear hK K hS2
        refine wpAnyH_ready (rs := [15]) (by kernel_rfl) (by simp) ?_
        refine AllReadyH.cons (o := { dst := none, op := Go.Op.store 111 (Go.Operand.tmp 6) (Go.Operand.tmp 50), type := 0, pos := "row.go:59", after := #[{ on := 14, ground := Go.Ground.data }, { on := 13, ground := Go.Ground.data }, { on := 0, ground := Go.Ground.phase }, { on := 1, ground := Go.Ground.phase }, { on := 2, ground := Go.Ground.phase }, { on := 3, ground := Go.Ground.phase }, { on := 4, ground := Go.Ground.phase }, { on := 5, ground := Go.Ground.phase }, { on := 6, ground := Go.Ground.phase }, { on := 7, ground := Go.Ground.phase }, { on := 8, ground := Go.Ground.phase }, { on := 9, ground := Go.Ground.phase }, { on := 10, ground := Go.Ground.phase }, { on := 11, ground := Go.Ground.phase }, { on := 12, ground := Go.Ground.phase }, { on := 13, ground := Go.Ground.phase }, { on := 14, ground := Go.Ground.phase }], guard := none }) rfl (fun K hK => ?_) AllReadyH.nil
        refine ite_of_pos (by kernel_rfl) ?_
        refine wp_store_mid 111 (.tmp 6) (.tmp 50) rfl X2.heap.size 0 #[iV tu.up, iV tu.d0, iV tu.d1, iV tu.long, iV tu.whole] rfl rfl (thing_there H3.out rfl) (by kernel_rfl) (by kernel_rfl) ?_
        obtain ⟨X4, hX4⟩ : ∃ W, Hid (W = X3.setCells X2.heap.size 0 [iV tu.up, iV tu.d0, iV tu.d1, iV tu.long, iV tu.whole]) := ⟨_, Eq.refl _⟩
        rw [← hX4.out] at HS3 HS4
        have hS2 : SAhd b k g cap n x u tu X4 := ⟨(HCl.out _ HS4.out).1, (HCl.out _ HS4.out).2.1, (HCl.out _ HS4.out).2.2.1⟩
        rw [show X3.setCells X2.heap.size 0 (#[iV tu.up, iV tu.d0, iV tu.d1, iV tu.long, iV tu.whole] : Array Value).toList = X4 from hX4.out.symm]
        refine hK.out _ _ hS2 (fun hHeld => ?_)
        clear hK K hS2
        refine wpAnyH_done (by kernel_rfl) ?_ _
        try simp only [Act.put, List.getElem_toArray, List.getElem_cons_succ, List.getElem_cons_zero, List.setIfInBounds_toArray, List.set_cons_succ, List.set_cons_zero]
        clear hHeld hX4 hX3 H3 HT3 HT2
        obtain ⟨B, hB⟩ : ∃ B, Hid (B = X2.heap.size) := ⟨_, Eq.refl _⟩
        rw [← hB.out] at HS3 ⊢
        have k1 : X4.cell? ⟨B, 1, none⟩ = some (iV tu.d0) := by rw [cell_of_block HS3.out]; rfl
        have k3 : X4.cell? ⟨B, 3, none⟩ = some (iV tu.long) := by rw [cell_of_block HS3.out]; rfl
        have k4 := (HCl.out X4 HS4.out).1
        have k5 := (HCl.out X4 HS4.out).2.2.2
        have kx := (HCl.out X4 HS4.out).2.1
        have y1 : IntKind.i64.wrap (vw + tu.long) = vw + tu.long := by rw [IntKind.wrap_i64]; omega
        have y2 : IntKind.i64.wrap (acc + (vw + tu.long)) = acc + (vw + tu.long) := by rw [IntKind.wrap_i64]; omega
        go_upto_region 6 with fail
        go_quiet (fail)
        have HT5 : Hid (Touch (fun _ => False) w (X4.drewN nq)) := ⟨HS4.out.os, HS4.out.tape, HS4.out.output, HS4.out.size, HS4.out.block⟩
        clear k1 k3 k4 k5 kx
        generalize X4.drewN nq = X5 at *
        have k4 := (HCl.out X5 HT5.out).1
        have kx := (HCl.out X5 HT5.out).2.1
        go_wp2_with fail
        go_roundg cl0
        case measure => omega
        case rel => exact ⟨u, c', acc', rfl, by rw [HAc.out], HT5.out, HV2.out, HM2.out⟩
end Go.Proofs.YtnilikomoapcaaaGreat
