/- Package seq's row: ahead, the walk. -/
import Derived.Test.YtdnhoicfolkbnaaGreatPart3
import Derived.Maps.AppendAt
import Derived.Laws.OwnMore
import Derived.Shelf.GgSortFunc.RowK
import Derived.Test.YtdnhoicfolkbnaaGreatPart2
namespace Go.Proofs.YtdnhoicfolkbnaaGreat
open Go.RowKit
set_option linter.unusedVariables false
set_option linter.unusedSimpArgs false
set_option maxRecDepth 100000

theorem Touch.stored {w W : World} {B : Nat} (t : Touch (fun _ => False) w W) (hB : w.heap.size ≤ B) (k : Nat) (vs : List Value) : Touch (fun _ => False) w (W.setCells B k vs) := by
  have key : ∀ (vs : List Value) (k : Nat) (W : World), Touch (fun _ => False) w W → Touch (fun _ => False) w (W.setCells B k vs) := by
    intro vs
    induction vs with
    | nil => intro k W t; exact t
    | cons v r ih =>
      intro k W t
      rw [World.setCells]
      exact ih (k + 1) _ (t.setCell ⟨B, k, none⟩ v (fun h => absurd h (by show ¬ B < _; omega)))
  exact key vs k W t
theorem ite_of_pos {c : Prop} [Decidable c] {X Y : Prop} (hc : c) (h : X) : if c then X else Y := by rw [if_pos hc]; exact h
theorem thing_there {W : World} {B : Nat} {x : Array Value} (h : W.heap[B]? = some (.cells x 146 (0, 0))) (hx : x.size = 5) : W.there B 0 5 := fun j hj => by
  refine ⟨?_, free_of_block h⟩
  rw [cell_of_block h, Array.getElem?_eq_getElem (by omega)]
  rfl
theorem thing_stored {W : World} {a b c d e : Value} (x : Array Value) (hx : x.size = 5) : (((W.alloc (.cells #[a, b, c, d, e] 146))).setCells W.heap.size 0 x.toList).heap[W.heap.size]? = some (.cells x 146 (0, 0)) := by
  obtain ⟨l⟩ := x
  match l, hx with
  | [p, q, r, s, t], _ =>
    have h0 := heap_setCell_same (W.alloc (.cells #[a, b, c, d, e] 146)) W.heap.size 0 p (heap_alloc_new _ _)
    have h1 := heap_setCell_same _ W.heap.size 1 q h0
    have h2 := heap_setCell_same _ W.heap.size 2 r h1
    have h3 := heap_setCell_same _ W.heap.size 3 s h2
    have h4 := heap_setCell_same _ W.heap.size 4 t h3
    exact h4
set_option maxHeartbeats 16000000 in
theorem ahead_any {w : World} {b k g cap : Nat} {L : List Th} (h : Things w b k g cap L) (i : Nat) (c : List Fr) (total : Int) (hi : i < L.length) (hi0 : i ≠ 0) (hd : (gt L i).d0 < L.length) (hI : InvA (gt L) L.length total i c (gt L (gt L i).d0).whole) (h0 : 0 < L.length) (hz : (gt L 0).d0 = 0 ∧ (gt L 0).long = 0 ∧ (gt L 0).whole = 0) (hT : Tame (gt L)) (ht : total ≤ 1152921504606846976) :
    Calls Tryz.prog 69 #[rP b k, iV (i : Int)] w fun e w' => e = .returned (iV total) ∧ Touch (fun _ => False) w w' := by
  have HK : Hid (∀ W, Touch (fun _ => False) w W → Things W b k g cap L) := fun W t => h.keep t id id
  have HZ : Hid (((gt L 0).d0 = 0 ∧ (gt L 0).long = 0 ∧ (gt L 0).whole = 0) ∧ 0 < L.length ∧ Tame (gt L)) := ⟨hz, h0, hT⟩
  have HI : Hid (InvA (gt L) L.length total i c (gt L (gt L i).d0).whole) := hI
  have t1 := h.th i hi
  rw [← gt_of hi] at t1
  have t2 := h.th _ hd
  rw [← gt_of hd] at t2
  have q1 := t1.c1
  have q4 := t2.c4
  have hc := h.cell
  have li : (i : Int) < (L.length : Int) := by omega
  have li0 : (0 : Int) ≤ (i : Int) := by omega
  have ld : ((gt L i).d0 : Int) < (L.length : Int) := by omega
  have ld0 : (0 : Int) ≤ ((gt L i).d0 : Int) := by omega
  generalize (gt L (gt L i).d0).whole = a0 at *
  generalize (gt L i).d0 = dd at *
  clear h t1 t2 hd hI hz h0 hT
  go_enter Tryz.func69, Tryz.ntmps69
  go_upto_region 1 with fail
  go_quiet (fail)
  have HT0 : Hid (Touch (fun _ => False) w (w.drewN nq)) := ⟨rfl, rfl, rfl, Nat.le_refl _, fun _ _ _ => rfl⟩
  generalize w.drewN nq = W0 at *
  clear hc q1 q4
  go_wp2_with fail
  go_loopg [1, 5] (c.length + 1) (fun gk s1 s5 wx => ∃ (x : Nat) (c : List Fr) (acc : Int), s1 = iV (x : Int) ∧ s5 = iV acc ∧ Hid (Touch (fun _ => False) w wx) ∧ Hid (InvA (gt L) L.length total x c acc) ∧ Hid ((if x = 0 then 0 else c.length + 1) = gk))
  case atStart => exact ⟨i, c, a0, rfl, rfl, HT0.out, HI.out, if_neg hi0⟩
  case round =>
    obtain ⟨x, c, acc, rfl, rfl, HT, HV, HM⟩ := hrel
    obtain ⟨X0, hX0⟩ : ∃ X, X = wr := ⟨_, rfl⟩
    subst hX0
    by_cases hx : x = 0
    · have e0 : ((x : Int) != 0) = false := by simp [hx]
      have HE : Hid (acc = total) := by
        rcases HV.out.2.2 with ⟨_, _, h⟩ | ⟨h, _⟩
        · exact h
        · exact absurd hx h
      clear hx
      go_wp2_with fail
      go_ret
      exact ⟨by rw [HE.out]; rfl, HT.out⟩
    · have e0 : ((x : Int) != 0) = true := by simp [hx]
      obtain ⟨hxn, hun, hdn, c', acc', hV', hm', hcase⟩ := ahead_step HV.out hx HZ.out.2.1 HZ.out.1 (fun j => (HZ.out.2.2 j).1)
      have HV2 : Hid (InvA (gt L) L.length total (gt L x).up c' acc') := hV'
      have hmm : (if x = 0 then 0 else c.length + 1) = c.length + 1 := if_neg hx
      have hgk : gk = c.length + 1 := by rw [← hmm]; exact HM.out.symm
      have HM2 : Hid ((if (gt L x).up = 0 then 0 else c'.length + 1) = c.length) := hm'
      obtain ⟨cl0, hcl0⟩ : ∃ m, m = c.length := ⟨_, rfl⟩
      rw [← hcl0] at hgk HM2
      have hcell : ∀ W, Touch (fun _ => False) w W → W.cell? ⟨b, k, none⟩ = some (.slice (some ⟨g, 0, none⟩) L.length cap) ∧ W.cell? ⟨g, x * 5, none⟩ = some (iV ((gt L x).up : Int)) ∧ W.rangeAt g ((gt L x).up * 5) [iV (gt L (gt L x).up).up, iV (gt L (gt L x).up).d0, iV (gt L (gt L x).up).d1, iV (gt L (gt L x).up).long, iV (gt L (gt L x).up).whole] ∧ W.cell? ⟨g, (gt L (gt L x).up).d0 * 5 + 4, none⟩ = some (iV (gt L (gt L (gt L x).up).d0).whole) := fun W t => by
        have hW := HK.out W t
        have t1 := hW.th x hxn
        have t2 := hW.th _ hun
        have t3 := hW.th _ hdn
        rw [← gt_of hxn] at t1
        rw [← gt_of hun] at t2
        rw [← gt_of hdn] at t3
        exact ⟨hW.cell, t1.c0, t2.range, t3.c4⟩
      have HCl : Hid _ := hcell
      have HSd : Hid (∀ W, Touch (fun _ => False) w W → Calls Tryz.prog 110 #[rP b k, iV (x : Int)] W fun e w' => e = .returned (iV (sideA (gt L) x : Int)) ∧ Touch (fun _ => False) W w') := fun W t => by
        have e1 : (gt L x).up = (L[x]'hxn).up := by rw [gt_of hxn]
        have hun' : (L[x]'hxn).up < L.length := by rw [← e1]; exact hun
        refine (side_any (HK.out W t) x hxn hun').mono ?_
        rintro e w' ⟨rfl, t⟩
        refine ⟨?_, t⟩
        have : (if (L[L[x].up]'hun').d1 = x then (1 : Int) else 0) = (sideA (gt L) x : Int) := by
          unfold sideA
          rw [gt_of hxn, gt_of hun']
          split <;> rfl
        rw [this]
      have tm1 := HZ.out.2.2 (gt L x).up
      have tm2 := HZ.out.2.2 (gt L (gt L x).up).d0
      have bnd : 0 ≤ acc ∧ acc ≤ total := ⟨HV.out.1, HV.out.2.1⟩
      have lx : (x : Int) < (L.length : Int) := by omega
      have lx0 : (0 : Int) ≤ (x : Int) := by omega
      have lu : ((gt L x).up : Int) < (L.length : Int) := by omega
      have lu0 : (0 : Int) ≤ ((gt L x).up : Int) := by omega
      have lv : ((gt L (gt L x).up).d0 : Int) < (L.length : Int) := by omega
      have lv0 : (0 : Int) ≤ ((gt L (gt L x).up).d0 : Int) := by omega
      clear hcell hV' hm' hmm hcl0 HV HM hxn hun hdn
      generalize (gt L (gt L (gt L x).up).d0).whole = vw at *
      generalize gt L (gt L x).up = tu at *
      generalize (gt L x).up = u at *
      generalize sideA (gt L) x = sd at *
      go_wp2_with fail
      refine (HSd.out _ HT.out).mono ?_
      rintro e X1 ⟨rfl, t⟩
      have HT1 : Hid (Touch (fun _ => False) w X1) := HT.out.trans t
      clear t HT HSd
      rcases hcase with ⟨hs, ha⟩ | ⟨hs, ha⟩
      · subst hs ha
        have hk := HCl.out X1 HT1.out
        have kc := hk.1
        have kx := hk.2.1
        clear hk
        go_wp2_with fail
        go_roundg cl0
        case measure => omega
        case rel => exact ⟨u, c', _, rfl, rfl, HT1.out, HV2.out, HM2.out⟩
      · subst hs
        have HAc : Hid (acc' = acc + (vw + tu.long)) := ha
        clear ha
        go_upto_region 5 with fail
        have HT2 : Hid (Touch (fun _ => False) w X1.drew) := HT1.out.drew
        have hS0 : SAhd b k g cap L.length x u tu X1.drew := ⟨(HCl.out _ HT2.out).1, (HCl.out _ HT2.out).2.1, (HCl.out _ HT2.out).2.2.1⟩
        generalize hn : L.length = n at *
        refine wp_region_held_drew (S := SAhd b k g cap n x u tu) (by kernel_rfl) hS0 (fun hHeld => ?_)
        clear hS0 HT1
        generalize X1.drew = X2 at *
        refine wpAnyH_take (i := 0) (oi := { dst := some 37, op := Go.Op.move (Go.Operand.tmp 0), type := 159, pos := "row.go:59", after := #[], guard := none }) (v := rP b k) rfl (by kernel_rfl) (by kernel_rfl) (by kernel_rfl) (fun _ _ _ h => h) (Or.inl ⟨by rfl, ?_⟩) hHeld ?_
        · intro w hSw; clear hSw; go_simp
        simp only [Act.put, List.setIfInBounds_toArray, List.set_cons_succ, List.set_cons_zero]
        refine wpAnyH_take (i := 1) (oi := { dst := some 38, op := Go.Op.nilCheck (Go.Operand.tmp 37), type := 0, pos := "row.go:59", after := #[{ on := 0, ground := Go.Ground.data }], guard := none }) (v := .pointer (some ⟨b, k, none⟩)) rfl (by kernel_rfl) (by kernel_rfl) (by kernel_rfl) (fun _ _ _ h => h) (Or.inl ⟨by rfl, ?_⟩) hHeld ?_
        · intro w hSw; clear hSw; go_simp
        simp only [Act.put, List.setIfInBounds_toArray, List.set_cons_succ, List.set_cons_zero]
        refine wpAnyH_take (i := 2) (oi := { dst := some 39, op := Go.Op.fieldAddr 111 (Go.Operand.tmp 38) 0, type := 0, pos := "row.go:59", after := #[{ on := 1, ground := Go.Ground.data }], guard := none }) (v := .pointer (some ⟨b, k, none⟩)) rfl (by kernel_rfl) (by kernel_rfl) (by kernel_rfl) (fun _ _ _ h => h) (Or.inl ⟨by rfl, ?_⟩) hHeld ?_
        · intro w hSw; clear hSw; go_simp
        simp only [Act.put, List.setIfInBounds_toArray, List.set_cons_succ, List.set_cons_zero]
        refine wpAnyH_take (i := 3) (oi := { dst := some 40, op := Go.Op.load 109 (Go.Operand.tmp 39), type := 109, pos := "row.go:59", after := #[{ on := 2, ground := Go.Ground.data }], guard := none }) (v := .slice (some ⟨g, 0, none⟩) n cap) rfl (by kernel_rfl) (by kernel_rfl) (by kernel_rfl) (fun _ _ _ h => h) (Or.inl ⟨by rfl, ?_⟩) hHeld ?_
        · intro w hSw; obtain ⟨s1, s2, s3⟩ := hSw; go_simp
        simp only [Act.put, List.setIfInBounds_toArray, List.set_cons_succ, List.set_cons_zero]
        refine wpAnyH_take (i := 4) (oi := { dst := some 41, op := Go.Op.move (Go.Operand.tmp 0), type := 159, pos := "row.go:59", after := #[], guard := none }) (v := rP b k) rfl (by kernel_rfl) (by kernel_rfl) (by kernel_rfl) (fun _ _ _ h => h) (Or.inl ⟨by rfl, ?_⟩) hHeld ?_
        · intro w hSw; clear hSw; go_simp
        simp only [Act.put, List.setIfInBounds_toArray, List.set_cons_succ, List.set_cons_zero]
        refine wpAnyH_take (i := 5) (oi := { dst := some 42, op := Go.Op.nilCheck (Go.Operand.tmp 41), type := 0, pos := "row.go:59", after := #[{ on := 4, ground := Go.Ground.data }], guard := none }) (v := .pointer (some ⟨b, k, none⟩)) rfl (by kernel_rfl) (by kernel_rfl) (by kernel_rfl) (fun _ _ _ h => h) (Or.inl ⟨by rfl, ?_⟩) hHeld ?_
        · intro w hSw; clear hSw; go_simp
        simp only [Act.put, List.setIfInBounds_toArray, List.set_cons_succ, List.set_cons_zero]
        refine wpAnyH_take (i := 6) (oi := { dst := some 43, op := Go.Op.fieldAddr 111 (Go.Operand.tmp 42) 0, type := 0, pos := "row.go:59", after := #[{ on := 5, ground := Go.Ground.data }], guard := none }) (v := .pointer (some ⟨b, k, none⟩)) rfl (by kernel_rfl) (by kernel_rfl) (by kernel_rfl) (fun _ _ _ h => h) (Or.inl ⟨by rfl, ?_⟩) hHeld ?_
        · intro w hSw; clear hSw; go_simp
        simp only [Act.put, List.setIfInBounds_toArray, List.set_cons_succ, List.set_cons_zero]
        refine wpAnyH_take (i := 7) (oi := { dst := some 44, op := Go.Op.load 109 (Go.Operand.tmp 43), type := 109, pos := "row.go:59", after := #[{ on := 6, ground := Go.Ground.data }], guard := none }) (v := .slice (some ⟨g, 0, none⟩) n cap) rfl (by kernel_rfl) (by kernel_rfl) (by kernel_rfl) (fun _ _ _ h => h) (Or.inl ⟨by rfl, ?_⟩) hHeld ?_
        · intro w hSw; obtain ⟨s1, s2, s3⟩ := hSw; go_simp
        simp only [Act.put, List.setIfInBounds_toArray, List.set_cons_succ, List.set_cons_zero]
        refine wpAnyH_take (i := 8) (oi := { dst := some 45, op := Go.Op.move (Go.Operand.tmp 1), type := 3, pos := "row.go:59", after := #[], guard := none }) (v := iV (x : Int)) rfl (by kernel_rfl) (by kernel_rfl) (by kernel_rfl) (fun _ _ _ h => h) (Or.inl ⟨by rfl, ?_⟩) hHeld ?_
        · intro w hSw; clear hSw; go_simp
        simp only [Act.put, List.setIfInBounds_toArray, List.set_cons_succ, List.set_cons_zero]
        refine wpAnyH_take (i := 9) (oi := { dst := some 46, op := Go.Op.indexAddr 109 (Go.Operand.tmp 44) (Go.Operand.tmp 45), type := 0, pos := "row.go:59", after := #[{ on := 7, ground := Go.Ground.data }, { on := 8, ground := Go.Ground.data }], guard := none }) (v := .pointer (some ⟨g, x * 5, none⟩)) rfl (by kernel_rfl) (by kernel_rfl) (by kernel_rfl) (fun _ _ _ h => h) (Or.inl ⟨by rfl, ?_⟩) hHeld ?_
        · intro w hSw; clear hSw; go_simp
        simp only [Act.put, List.setIfInBounds_toArray, List.set_cons_succ, List.set_cons_zero]
        refine wpAnyH_take (i := 10) (oi := { dst := some 47, op := Go.Op.fieldAddr 146 (Go.Operand.tmp 46) 0, type := 0, pos := "row.go:59", after := #[{ on := 9, ground := Go.Ground.data }], guard := none }) (v := .pointer (some ⟨g, x * 5, none⟩)) rfl (by kernel_rfl) (by kernel_rfl) (by kernel_rfl) (fun _ _ _ h => h) (Or.inl ⟨by rfl, ?_⟩) hHeld ?_
        · intro w hSw; clear hSw; go_simp
        simp only [Act.put, List.setIfInBounds_toArray, List.set_cons_succ, List.set_cons_zero]
        refine wpAnyH_take (i := 11) (oi := { dst := some 48, op := Go.Op.load 3 (Go.Operand.tmp 47), type := 3, pos := "row.go:59", after := #[{ on := 10, ground := Go.Ground.data }], guard := none }) (v := iV (u : Int)) rfl (by kernel_rfl) (by kernel_rfl) (by kernel_rfl) (fun _ _ _ h => h) (Or.inl ⟨by rfl, ?_⟩) hHeld ?_
        · intro w hSw; obtain ⟨s1, s2, s3⟩ := hSw; go_simp
        simp only [Act.put, List.setIfInBounds_toArray, List.set_cons_succ, List.set_cons_zero]
        refine wpAnyH_take (i := 12) (oi := { dst := some 49, op := Go.Op.indexAddr 109 (Go.Operand.tmp 40) (Go.Operand.tmp 48), type := 0, pos := "row.go:59", after := #[{ on := 3, ground := Go.Ground.data }, { on := 11, ground := Go.Ground.data }], guard := none }) (v := .pointer (some ⟨g, u * 5, none⟩)) rfl (by kernel_rfl) (by kernel_rfl) (by kernel_rfl) (fun _ _ _ h => h) (Or.inl ⟨by rfl, ?_⟩) hHeld ?_
        · intro w hSw; clear hSw; go_simp
        simp only [Act.put, List.setIfInBounds_toArray, List.set_cons_succ, List.set_cons_zero]
        refine wpAnyH_take (i := 13) (oi := { dst := some 50, op := Go.Op.load 146 (Go.Operand.tmp 49), type := 146, pos := "row.go:59", after := #[{ on := 12, ground := Go.Ground.data }], guard := none }) (v := .agg #[iV tu.up, iV tu.d0, iV tu.d1, iV tu.long, iV tu.whole]) rfl (by kernel_rfl) (by kernel_rfl) (by kernel_rfl) (fun _ _ _ h => h) (yieldsIf_load_mid (by rfl) 146 (.tmp 49) rfl g (u * 5) rfl [iV tu.up, iV tu.d0, iV tu.d1, iV tu.long, iV tu.whole] _ (fun w hw => hw.2.2) Tryz.underlying146 rfl (by kernel_rfl)) hHeld ?_
        simp only [Act.put, List.setIfInBounds_toArray, List.set_cons_succ, List.set_cons_zero]
        refine wpAnyH_ready (rs := [14]) (by kernel_rfl) (by simp) ?_
        refine AllReadyH.cons (o := { dst := some 6, op := Go.Op.alloc 146, type := 0, pos := "row.go:59", after := #[], guard := none }) rfl (fun K hK => ?_) AllReadyH.nil
        go_simp
        obtain ⟨X3, hX3⟩ : ∃ W, Hid (W = X2.alloc (.cells #[iV 0, iV 0, iV 0, iV 0, iV 0] 146)) := ⟨_, Eq.refl _⟩
        have HT3 : Hid (Touch (fun _ => False) w X3) := by rw [hX3.out]; exact HT2.out.alloc _
        have H3 : Hid (X3.heap[X2.heap.size]? = some (.cells #[iV 0, iV 0, iV 0, iV 0, iV 0] 146 (0, 0))) := by rw [hX3.out]; exact heap_alloc_new _ _
        have HS3 : Hid ((X3.setCells X2.heap.size 0 [iV tu.up, iV tu.d0, iV tu.d1, iV tu.long, iV tu.whole]).heap[X2.heap.size]? = some (.cells #[iV tu.up, iV tu.d0, iV tu.d1, iV tu.long, iV tu.whole] 146 (0, 0))) := by rw [hX3.out]; exact thing_stored #[iV tu.up, iV tu.d0, iV tu.d1, iV tu.long, iV tu.whole] rfl
        have HS4 : Hid (Touch (fun _ => False) w (X3.setCells X2.heap.size 0 [iV tu.up, iV tu.d0, iV tu.d1, iV tu.long, iV tu.whole])) := HT3.out.stored HT2.out.size 0 _
        have hS2 : SAhd b k g cap n x u tu X3 := ⟨(HCl.out _ HT3.out).1, (HCl.out _ HT3.out).2.1, (HCl.out _ HT3.out).2.2.1⟩
        rw [← hX3.out]
        refine hK.out _ _ hS2 (fun hHeld => ?_)
        clear hK K hS2
        refine wpAnyH_ready (rs := [15]) (by kernel_rfl) (by simp) ?_
        refine AllReadyH.cons (o := { dst := none, op := Go.Op.store 146 (Go.Operand.tmp 6) (Go.Operand.tmp 50), type := 0, pos := "row.go:59", after := #[{ on := 14, ground := Go.Ground.data }, { on := 13, ground := Go.Ground.data }, { on := 0, ground := Go.Ground.phase }, { on := 1, ground := Go.Ground.phase }, { on := 2, ground := Go.Ground.phase }, { on := 3, ground := Go.Ground.phase }, { on := 4, ground := Go.Ground.phase }, { on := 5, ground := Go.Ground.phase }, { on := 6, ground := Go.Ground.phase }, { on := 7, ground := Go.Ground.phase }, { on := 8, ground := Go.Ground.phase }, { on := 9, ground := Go.Ground.phase }, { on := 10, ground := Go.Ground.phase }, { on := 11, ground := Go.Ground.phase }, { on := 12, ground := Go.Ground.phase }, { on := 13, ground := Go.Ground.phase }, { on := 14, ground := Go.Ground.phase }], guard := none }) rfl (fun K hK => ?_) AllReadyH.nil
        refine ite_of_pos (by kernel_rfl) ?_
        refine wp_store_mid 146 (.tmp 6) (.tmp 50) rfl X2.heap.size 0 #[iV tu.up, iV tu.d0, iV tu.d1, iV tu.long, iV tu.whole] rfl rfl (thing_there H3.out rfl) (by kernel_rfl) (by kernel_rfl) ?_
        obtain ⟨X4, hX4⟩ : ∃ W, Hid (W = X3.setCells X2.heap.size 0 [iV tu.up, iV tu.d0, iV tu.d1, iV tu.long, iV tu.whole]) := ⟨_, Eq.refl _⟩
        rw [← hX4.out] at HS3 HS4
        have hS2 : SAhd b k g cap n x u tu X4 := ⟨(HCl.out _ HS4.out).1, (HCl.out _ HS4.out).2.1, (HCl.out _ HS4.out).2.2.1⟩
        rw [show X3.setCells X2.heap.size 0 (#[iV tu.up, iV tu.d0, iV tu.d1, iV tu.long, iV tu.whole] : Array Value).toList = X4 from hX4.out.symm]
        refine hK.out _ _ hS2 (fun hHeld => ?_)
        clear hK K hS2
        refine wpAnyH_done (by kernel_rfl) ?_ _
        try simp only [Act.put, List.getElem_toArray, List.getElem_cons_succ, List.getElem_cons_zero, List.setIfInBounds_toArray, List.set_cons_succ, List.set_cons_zero]
        clear hHeld hX4 hX3 H3 HT3 HT2
        obtain ⟨B, hB⟩ : ∃ B, Hid (B = X2.heap.size) := ⟨_, Eq.refl _⟩
        rw [← hB.out] at HS3 ⊢
        have k1 : X4.cell? ⟨B, 1, none⟩ = some (iV tu.d0) := by rw [cell_of_block HS3.out]; rfl
        have k3 : X4.cell? ⟨B, 3, none⟩ = some (iV tu.long) := by rw [cell_of_block HS3.out]; rfl
        have k4 := (HCl.out X4 HS4.out).1
        have k5 := (HCl.out X4 HS4.out).2.2.2
        have kx := (HCl.out X4 HS4.out).2.1
        have y1 : IntKind.i64.wrap (vw + tu.long) = vw + tu.long := by rw [IntKind.wrap_i64]; omega
        have y2 : IntKind.i64.wrap (acc + (vw + tu.long)) = acc + (vw + tu.long) := by rw [IntKind.wrap_i64]; omega
        go_upto_region 6 with fail
        go_quiet (fail)
        have HT5 : Hid (Touch (fun _ => False) w (X4.drewN nq)) := ⟨HS4.out.os, HS4.out.tape, HS4.out.output, HS4.out.size, HS4.out.block⟩
        clear k1 k3 k4 k5 kx
        generalize X4.drewN nq = X5 at *
        have k4 := (HCl.out X5 HT5.out).1
        have kx := (HCl.out X5 HT5.out).2.1
        go_wp2_with fail
        go_roundg cl0
        case measure => omega
        case rel => exact ⟨u, c', acc', rfl, by rw [HAc.out], HT5.out, HV2.out, HM2.out⟩
end Go.Proofs.YtdnhoicfolkbnaaGreat

/- Package seq's row: next. -/
namespace Go.Proofs.YtdnhoicfolkbnaaGreat
open Go.RowKit
set_option linter.unusedVariables false
set_option linter.unusedSimpArgs false
set_option maxRecDepth 100000

/-- The first one behind, on the way up. -/
def nextC : List Fr → Nat
  | [] => 0
  | .L u _ :: _ => u
  | .R _ _ :: c => nextC c
theorem nextC_head : ∀ c : List Fr, nextC c = (cr c).headD 0
  | [] => rfl
  | .L u r :: c => rfl
  | .R l u :: c => nextC_head c
theorem first_head : ∀ {t : Tr}, t ≠ .nil → ∃ l, t.flat = t.first :: l
  | .nil, h => absurd rfl h
  | .node .nil i r, _ => ⟨r.flat, rfl⟩
  | .node (.node a j b) i r, _ => by
    obtain ⟨l, hl⟩ := first_head (t := .node a j b) (by simp)
    exact ⟨l ++ i :: r.flat, by show (Tr.node a j b).flat ++ i :: r.flat = _; rw [hl]; rfl⟩
/-- Where next is, on its way up. -/
def InvN (A : Nat → Th) (n res x : Nat) (c : List Fr) : Prop :=
  (x = 0 ∧ c = [] ∧ res = 0) ∨ (x ≠ 0 ∧ x < n ∧ (A x).up = par c ∧ (∃ s, RepC A c x s) ∧ FitC c n ∧ x ∉ cl c ++ cr c ∧ (cl c ++ cr c).Nodup ∧ (A 0).d1 = topC c x ∧ nextC c = res)
theorem next_step {A : Nat → Th} {n res x : Nat} {c : List Fr} (h : InvN A n res x c) (hx : x ≠ 0) (hn : 0 < n) :
    x < n ∧ (A x).up < n ∧ ((sideA A x = 1 ∧ ∃ c', InvN A n res (A x).up c' ∧ (if (A x).up = 0 then 0 else c'.length + 1) = c.length) ∨ (sideA A x = 0 ∧ (A x).up = res)) := by
  rcases h with ⟨h, _⟩ | ⟨_, hxn, hup, ⟨s, hC⟩, hF, hxc, hN, htop, hres⟩
  · exact absurd h hx
  refine ⟨hxn, by rw [hup]; exact hF.par hn, ?_⟩
  cases c with
  | nil =>
    have e0 : (A x).up = 0 := hup
    have hs : sideA A x = 1 := by unfold sideA; rw [e0]; exact if_pos htop
    rw [e0]
    exact .inl ⟨hs, [], .inl ⟨rfl, rfl, hres.symm⟩, by simp⟩
  | cons f c =>
    have hpm := hF _ (par_mem (c := f :: c) (by simp))
    cases f with
    | L u r =>
      have eu : (A x).up = u := hup
      refine .inr ⟨?_, by rw [eu]; exact hres⟩
      unfold sideA
      rw [eu, hC.2.2.1, if_neg (root_ne (fun h => hxc (by simp [cl, cr, h])) hx)]
    | R l u =>
      have eu : (A x).up = u := hup
      have hu0 : u ≠ 0 := hpm.2
      obtain ⟨c1, c2, c3, c4, c5, c6⟩ := hC
      have hs : sideA A x = 1 := by unfold sideA; rw [eu]; exact if_pos c3
      rw [eu]
      have hn' : (cl c ++ (l.flat ++ [u]) ++ cr c).Nodup := by simpa [cl, cr] using hN
      have hnd := List.nodup_append.1 hn'
      have hnd1 := List.nodup_append.1 hnd.1
      refine .inl ⟨hs, c, .inr ⟨hu0, hpm.1, c1, ⟨_, c6⟩, hF.tail, fun h => ?_, List.nodup_append.2 ⟨hnd1.1, hnd.2.1, fun a ha b hb => hnd.2.2 a (by simp [ha]) b hb⟩, htop, hres⟩, by rw [if_neg hu0]; rfl⟩
      rcases List.mem_append.1 h with h | h
      · exact hnd1.2.2 u h u (by simp) rfl
      · exact hnd.2.2 u (by simp) u h rfl
end Go.Proofs.YtdnhoicfolkbnaaGreat

/- Trees whose nodes are things of an array: a new leaf. -/
namespace Go.Proofs.YtdnhoicfolkbnaaGreat
set_option linter.unusedVariables false
set_option linter.unusedSimpArgs false

/-- A thing that isn't in the tree, and has nothing yet. -/
structure Fresh (A : Nat → Th) (n : Nat) (l : List Nat) : Prop where
  n0 : n ≠ 0
  nl : n ∉ l
  th : A n = ⟨0, 0, 0, 0, 0⟩
theorem hang_facts {A : Nat → Th} {u s n : Nat} {l : List Nat} (hF : Fresh A n l) (hu : u ≠ n) : hangA A u s n u = (A u).put (1 + s) (n : Int) ∧ hangA A u s n n = ⟨u, 0, 0, 0, 0⟩ ∧ ∀ j, j ≠ u → j ≠ n → hangA A u s n j = A j := by
  refine ⟨hangA_up hu, ?_, fun j h1 h2 => hangA_ne h1 (fun _ => h2)⟩
  rw [hangA_it hu hF.n0, hF.th]
  simp [Th.put]
/-- On the back of one that has nothing there. -/
theorem leaf_back {A : Nat → Th} {c : List Fr} {a : Tr} {u n : Nat} (H : Rep A 0 (plug c (.node a u .nil))) (N : (plug c (.node a u .nil)).flat.Nodup) (hF : Fresh A n (plug c (.node a u .nil)).flat) :
    Rep (hangA A u 1 n) 0 (plug (.R a u :: c) (.node .nil n .nil)) := by
  rw [flat_plug] at N
  have hnl := hF.nl
  rw [flat_plug] at hnl
  have n1 : (cl c ++ (a.flat ++ u :: []) ++ cr c).Nodup := N
  have hnd := List.nodup_append.1 n1
  have hnd1 := List.nodup_append.1 hnd.1
  have hnd2 := List.nodup_append.1 hnd1.2.1
  have un : u ≠ n := fun e => hnl (by rw [← e]; simp [Tr.flat])
  obtain ⟨f1, f2, f3⟩ := hang_facts (s := 1) hF un
  obtain ⟨hC, i1, i2, i3, i4, i5, i6⟩ := (rep_plug A c (.node a u .nil)).1 H
  have ua : u ∉ a.flat := fun h => hnd2.2.2 u h u (by simp) rfl
  have uc : u ∉ cl c ++ cr c := fun h => by
    rcases List.mem_append.1 h with h | h
    · exact hnd1.2.2 u h u (by simp) rfl
    · exact hnd.2.2 u (by simp) u h rfl
  have ga : ∀ x ∈ a.flat, A x = hangA A u 1 n x := fun x hx => (f3 x (fun e => ua (e ▸ hx)) (fun e => hnl (by rw [← e]; simp [Tr.flat, hx]))).symm
  have sa := Tr.sum_congr (A := A) (B := hangA A u 1 n) (t := a) fun x hx => by rw [ga x hx]
  have fu : hangA A u 1 n u = { A u with d1 := n } := by rw [f1]; simp [Th.put]
  refine (rep_plug _ (.R a u :: c) _).2 ⟨⟨by rw [fu]; exact i1, by rw [fu]; exact i2, by rw [fu]; rfl, ?_, Rep.congr ga i5, ?_⟩, ⟨by rw [f2]; rfl, by rw [f2]; rfl, by rw [f2]; rfl, by rw [f2]; rfl, trivial, trivial⟩⟩
  · rw [fu, ← sa]
    simp only [Tr.sum, f2]
    have := i4
    simp only [Tr.sum] at this
    omega
  · have e : a.sum (hangA A u 1 n) + (hangA A u 1 n u).long + (Tr.node .nil n .nil).sum (hangA A u 1 n) = (Tr.node a u .nil).sum A := by
      rw [fu, ← sa]
      simp only [Tr.sum, f2]
      omega
    rw [e]
    exact RepC.congr (fun x hx => (f3 x (fun e => uc (e ▸ hx)) (fun e => hnl (by rw [← e]; rcases List.mem_append.1 hx with hx | hx <;> simp [hx]))).symm) hC
/-- On the front of one that has nothing there. -/
theorem leaf_front {A : Nat → Th} {c : List Fr} {a : Tr} {u n : Nat} (H : Rep A 0 (plug c (.node .nil u a))) (N : (plug c (.node .nil u a)).flat.Nodup) (hF : Fresh A n (plug c (.node .nil u a)).flat) :
    Rep (hangA A u 0 n) 0 (plug (.L u a :: c) (.node .nil n .nil)) := by
  rw [flat_plug] at N
  have hnl := hF.nl
  rw [flat_plug] at hnl
  have n1 : (cl c ++ (u :: a.flat) ++ cr c).Nodup := N
  have hnd := List.nodup_append.1 n1
  have hnd1 := List.nodup_append.1 hnd.1
  have hnd2 := List.nodup_cons.1 hnd1.2.1
  have un : u ≠ n := fun e => hnl (by rw [← e]; simp [Tr.flat])
  obtain ⟨f1, f2, f3⟩ := hang_facts (s := 0) hF un
  obtain ⟨hC, i1, i2, i3, i4, i5, i6⟩ := (rep_plug A c (.node .nil u a)).1 H
  have ua : u ∉ a.flat := hnd2.1
  have uc : u ∉ cl c ++ cr c := fun h => by
    rcases List.mem_append.1 h with h | h
    · exact hnd1.2.2 u h u (by simp) rfl
    · exact hnd.2.2 u (by simp) u h rfl
  have ga : ∀ x ∈ a.flat, A x = hangA A u 0 n x := fun x hx => (f3 x (fun e => ua (e ▸ hx)) (fun e => hnl (by rw [← e]; simp [Tr.flat, hx]))).symm
  have sa := Tr.sum_congr (A := A) (B := hangA A u 0 n) (t := a) fun x hx => by rw [ga x hx]
  have fu : hangA A u 0 n u = { A u with d0 := n } := by rw [f1]; simp [Th.put]
  refine (rep_plug _ (.L u a :: c) _).2 ⟨⟨by rw [fu]; exact i1, by rw [fu]; rfl, by rw [fu]; exact i3, ?_, Rep.congr ga i6, ?_⟩, ⟨by rw [f2]; rfl, by rw [f2]; rfl, by rw [f2]; rfl, by rw [f2]; rfl, trivial, trivial⟩⟩
  · rw [fu, ← sa]
    simp only [Tr.sum, f2]
    have := i4
    simp only [Tr.sum] at this
    omega
  · have e : (Tr.node .nil n .nil).sum (hangA A u 0 n) + (hangA A u 0 n u).long + a.sum (hangA A u 0 n) = (Tr.node .nil u a).sum A := by
      rw [fu, ← sa]
      simp only [Tr.sum, f2]
      omega
    rw [e]
    exact RepC.congr (fun x hx => (f3 x (fun e => uc (e ▸ hx)) (fun e => hnl (by rw [← e]; rcases List.mem_append.1 hx with hx | hx <;> simp [hx]))).symm) hC
/-- As they stand: the new one right behind u, or right ahead. -/
theorem flat_leaf_back (c : List Fr) (a : Tr) (u n : Nat) : (plug (.R a u :: c) (.node .nil n .nil)).flat = cl c ++ (a.flat ++ [u]) ++ n :: cr c ∧ (plug c (.node a u .nil)).flat = cl c ++ (a.flat ++ [u]) ++ cr c := by
  constructor
  · rw [flat_plug]; simp [cl, cr, Tr.flat]
  · rw [flat_plug]; simp [Tr.flat]
theorem flat_leaf_front (c : List Fr) (a : Tr) (u n : Nat) : (plug (.L u a :: c) (.node .nil n .nil)).flat = cl c ++ n :: (u :: a.flat ++ cr c) ∧ (plug c (.node .nil u a)).flat = cl c ++ (u :: a.flat ++ cr c) := by
  constructor
  · rw [flat_plug]; simp [cl, cr, Tr.flat]
  · rw [flat_plug]; simp [Tr.flat]
/-- Lifts change nothing of how they stand. -/
theorem flat_lift (c : List Fr) (a b r : Tr) (i u : Nat) : (plug c (.node a i (.node b u r))).flat = (plug (.L u r :: c) (.node a i b)).flat ∧ (plug c (.node (.node r u a) i b)).flat = (plug (.R r u :: c) (.node a i b)).flat := by
  constructor
  · rw [flat_plug, flat_plug]; simp [cl, cr, Tr.flat]
  · rw [flat_plug, flat_plug]; simp [cl, cr, Tr.flat]
end Go.Proofs.YtdnhoicfolkbnaaGreat

/- Package seq's row: a thing more in the slice. -/
namespace Go.Proofs.YtdnhoicfolkbnaaGreat
open Go.RowKit Go.Maps
set_option linter.unusedVariables false
set_option linter.unusedSimpArgs false
set_option maxRecDepth 100000

theorem cellsH_one (l : List Th) : ∀ u ∈ cellsH l, u.oneCell' = true := by
  intro u hu
  obtain ⟨f, _, hf⟩ := List.mem_flatMap.1 hu
  simp only [cellH, List.mem_cons, List.not_mem_nil, or_false] at hf
  rcases hf with rfl | rfl | rfl | rfl | rfl <;> rfl
theorem infoH : (Tryz.prog.info? 146).map (fun i => (i.zero, i.size, i.bytes)) = some (some (.agg #[iV 0, iV 0, iV 0, iV 0, iV 0]), 5, 40) := by kernel_rfl
abbrev zeroT : Th := ⟨0, 0, 0, 0, 0⟩
abbrev zeroTO : Obj := .cells #[iV 0, iV 0, iV 0, iV 0, iV 0] 146
theorem addr_addH (g o j : Nat) : (⟨g, o, none⟩ : Addr).add j = ⟨g, o + j, none⟩ := by
  unfold Addr.add
  split <;> simp_all
/-- What else stands behind an append that lays its slice into cell k of block b. -/
structure AddF (w w' : World) (b k g : Nat) : Prop where
  os : w'.os = w.os
  tape : w'.tape = w.tape
  output : w'.output = w.output
  size : w.heap.size ≤ w'.heap.size
  block : ∀ x, x < w.heap.size → x ≠ g → x ≠ b → w'.heap[x]? = w.heap[x]?
  cells : ∀ j, j ≠ k → w'.cell? ⟨b, j, none⟩ = w.cell? ⟨b, j, none⟩
  blk : ∀ c t fr, w.heap[b]? = some (.cells c t fr) → ∃ v, w'.heap[b]? = some (.cells (c.setIfInBounds k v) t fr)
theorem append_thing {w : World} {b k g cap : Nat} {L : List Th} (h : Things w b k g cap L) (hl : L.length ≤ 1073741824) :
    ∃ g' cap' w', (Builtin.append_ #[109, 109] 109 #[.slice (some ⟨g, 0, none⟩) L.length cap, .slice (some ⟨w.heap.size, 0, none⟩) 1 1]).run Tryz.prog (w.alloc zeroTO) = .ok (.slice (some ⟨g', 0, none⟩) (L.length + 1) cap') w' ∧
      Things (w'.setCell ⟨b, k, none⟩ (.slice (some ⟨g', 0, none⟩) (L.length + 1) cap')) b k g' cap' (L ++ [zeroT]) ∧ AddF w (w'.setCell ⟨b, k, none⟩ (.slice (some ⟨g', 0, none⟩) (L.length + 1) cap')) b k g ∧ (g' = g ∨ w.heap.size ≤ g') ∧ (∃ v, w'.cell? ⟨b, k, none⟩ = some v) ∧ w'.heap[b]? = w.heap[b]? := by
  obtain ⟨i0, hi, hz0, hz1, hz2⟩ := info_parts infoH
  obtain ⟨cur, c1, c2, c3, c4, c5⟩ := h.row
  have hg := h.lt
  have hb : b < w.heap.size := World.block_lt_of_cell? _ _ h.cell
  have hgA : (w.alloc zeroTO).heap[g]? = some (.cells cur 146 (0, 0)) := by rw [Below.heap_alloc _ _ _ hg]; exact c1
  have hown : (w.alloc zeroTO).ownsRow 0 146 5 (.slice (some ⟨g, 0, none⟩) L.length cap) L.length (cellsH L) := ⟨cellsH_len L, .inr ⟨g, cap, cur, rfl, Nat.zero_le _, hgA, c3, by unfold maxLen; omega, c2, c5⟩⟩
  have hcl : ∀ j u, (cellsH [zeroT])[j]? = some u → (w.alloc zeroTO).cell? ((⟨w.heap.size, 0, none⟩ : Addr).add j) = some u := by
    intro j u hu
    rw [addr_addH, Nat.zero_add, cell_of_block (heap_alloc_new w zeroTO)]
    have : (cellsH [zeroT])[j]? = (#[iV 0, iV 0, iV 0, iV 0, iV 0] : Array Value)[j]? := by simp [cellsH, cellH]
    rw [← this]; exact hu
  obtain ⟨v', w', hrun, hown', hgr, _, hat⟩ := run_append_own_at (w.alloc zeroTO) 0 109 109 146 i0 _ 5 40 Tryz.underlying109 hi hz0 hz1 hz2 rfl (by decide) (.slice (some ⟨g, 0, none⟩) L.length cap) L.length (cellsH L) hown ⟨w.heap.size, 0, none⟩ 1 1 (cellsH [zeroT]) (cellsH_len [zeroT]) hcl (cellsH_one [zeroT]) (by unfold maxLen; omega) (by omega) (Nat.zero_le _)
  rcases hown'.2 with ⟨_, h9⟩ | ⟨g', cap', cur', rfl, _, hg', d1, d2, d3, d4⟩
  · omega
  have hat' : g' = g ∨ g' = (w.alloc zeroTO).heap.size := by simpa [Value.ownBlock] using hat
  have hsz : (w.alloc zeroTO).heap.size = w.heap.size + 1 := by simp
  have hbg' : b ≠ g' := by
    rcases hat' with e | e
    · rw [e]; exact h.ne
    · omega
  have hold : ∀ x, x < w.heap.size → x ≠ g → w'.heap[x]? = w.heap[x]? := fun x hx hxg => by
    rw [hgr.block x (by omega) (by simp [Value.ownBlock]; omega)]
    exact Below.heap_alloc _ _ _ hx
  have hbo : w'.heap[b]? = w.heap[b]? := hold b hb h.ne
  have hcb : w'.cell? ⟨b, k, none⟩ = w.cell? ⟨b, k, none⟩ := World.cell?_of_block hbo
  refine ⟨g', cap', w', hrun, ⟨?_, hbg', cur', ?_, d3, by simpa using d1, by unfold maxLen at d2; omega, ?_⟩, ⟨?_, ?_, ?_, ?_, ?_, ?_, ?_⟩, ?_, ⟨_, by rw [hcb]; exact h.cell⟩, hbo⟩
  · rw [List.length_append]
    exact World.cell?_setCell_same' w' ⟨b, k, none⟩ _ (by rw [hcb, h.cell]; rfl)
  · rw [Below.heap_setCell _ _ _ _ (Ne.symm hbg')]; exact hg'
  · rw [List.length_append, cellsH_append]; exact d4
  · exact hgr.os
  · exact hgr.tape
  · exact hgr.output
  · have := hgr.size
    simp only [World.setCell, World.alloc] at this ⊢
    simp at this ⊢
    omega
  · intro x hx hxg hxb
    rw [Below.heap_setCell _ _ _ _ hxb]
    exact hold x hx hxg
  · intro j hj
    have hne : (⟨b, k, none⟩ : Addr) ≠ ⟨b, j, none⟩ := fun e => by simp only [Addr.mk.injEq] at e; exact hj e.2.1.symm
    exact (World.cell?_setCell_other w' _ _ _ hne).trans (World.cell?_of_block hbo)
  · intro c t fr hb'
    exact ⟨_, heap_setCell_same _ _ _ _ (hbo.trans hb')⟩
  · rcases hat' with e | e
    · exact .inl e
    · exact .inr (by omega)
end Go.Proofs.YtdnhoicfolkbnaaGreat

/- Trees whose nodes are things of an array: what a lift's counts find. -/
namespace Go.Proofs.YtdnhoicfolkbnaaGreat
set_option linter.unusedVariables false
set_option linter.unusedSimpArgs false

/-- What is so when the counts come: C behind the hangs. -/
structure Mid (A C : Nat → Th) (i u : Nat) (Ci Cu : Th) : Prop where
  ci : C i = Ci
  cu : C u = Cu
  whole : ∀ j, j ≠ i → j ≠ u → (C j).whole = (A j).whole
theorem mid_front {A : Nat → Th} {i u g da db r s : Nat} (ai : (A i).up = u) (a0 : (A i).d0 = da) (a1 : (A i).d1 = db) (bu : (A u).up = g) (b1 : (A u).d1 = r) (hs : sideA A u = s) (hs2 : s < 2)
    (iu : i ≠ u) (ig : i ≠ g) (ug : u ≠ g) (i0 : i ≠ 0) (u0 : u ≠ 0) (ri : r ≠ i) (ru : r ≠ u) (rg : r = g → r = 0) (dbi : db ≠ i) (dbu : db ≠ u) (dbg : db = g → db = 0) (dbr : db = r → db = 0) (dai : da ≠ i) (dau : da ≠ u) (dag : da = g → da = 0) (dadb : da = db → da = 0) (w0 : (A 0).whole = 0) :
    Mid A (hangA (hangA (hangA A g s i) i 1 u) u 0 db) i u { A i with up := g, d1 := u } { A u with up := i, d0 := db } := by
  -- the worlds between
  have p1i : hangA A g s i i = (A i).put 0 (g : Int) := hangA_it (Ne.symm ig) i0
  have p1u : hangA A g s i u = A u := hangA_ne ug (fun _ => Ne.symm iu)
  have p1g : hangA A g s i g = (A g).put (1 + s) (i : Int) := hangA_up (Ne.symm ig)
  have p1o : ∀ j, j ≠ i → j ≠ g → hangA A g s i j = A j := fun j h1 h2 => hangA_ne h2 (fun _ => h1)
  have p2i : hangA (hangA A g s i) i 1 u i = ((A i).put 0 (g : Int)).put 2 (u : Int) := by rw [hangA_up iu, p1i]
  have p2u : hangA (hangA A g s i) i 1 u u = (A u).put 0 (i : Int) := by rw [hangA_it iu u0, p1u]
  have p2o : ∀ j, j ≠ i → j ≠ u → hangA (hangA A g s i) i 1 u j = hangA A g s i j := fun j h1 h2 => hangA_ne h1 (fun _ => h2)
  have p3u : hangA (hangA (hangA A g s i) i 1 u) u 0 db u = ((A u).put 0 (i : Int)).put 1 (db : Int) := by rw [hangA_up (Ne.symm dbu), p2u]
  have p3i : hangA (hangA (hangA A g s i) i 1 u) u 0 db i = ((A i).put 0 (g : Int)).put 2 (u : Int) := by rw [hangA_ne iu (fun _ => Ne.symm dbi), p2i]
  have p3d : db ≠ 0 → hangA (hangA (hangA A g s i) i 1 u) u 0 db db = (A db).put 0 (u : Int) := fun h => by
    rw [hangA_it (Ne.symm dbu) h, p2o db dbi dbu, p1o db dbi (fun e => h (dbg e))]
  have p3o : ∀ j, j ≠ u → (db ≠ 0 → j ≠ db) → hangA (hangA (hangA A g s i) i 1 u) u 0 db j = hangA (hangA A g s i) i 1 u j := fun j h1 h2 => hangA_ne h1 h2
  generalize hC : hangA (hangA (hangA A g s i) i 1 u) u 0 db = C at *
  have cw : ∀ j, j ≠ i → j ≠ u → (C j).whole = (A j).whole := fun j h1 h2 => by
    by_cases hj : j = db
    · by_cases h0 : db = 0
      · rw [p3o j h2 (fun h => absurd h0 h), p2o j h1 h2]
        by_cases hg : j = g
        · rw [hg, p1g]
          match s, hs2 with
          | 0, _ => rfl
          | 1, _ => rfl
        · rw [p1o j h1 hg]
      · rw [hj, p3d h0]; rfl
    · rw [p3o j h2 (fun _ => hj), p2o j h1 h2]
      by_cases hg : j = g
      · rw [hg, p1g]
        match s, hs2 with
        | 0, _ => rfl
        | 1, _ => rfl
      · rw [p1o j h1 hg]
  refine ⟨?_, ?_, cw⟩
  · rw [p3i]; simp [Th.put]
  · rw [p3u]; simp [Th.put]
theorem mid_back {A : Nat → Th} {i u g da db r s : Nat} (ai : (A i).up = u) (a0 : (A i).d0 = da) (a1 : (A i).d1 = db) (bu : (A u).up = g) (b0 : (A u).d0 = r) (b1 : (A u).d1 = i) (hs : sideA A u = s) (hs2 : s < 2)
    (iu : i ≠ u) (ig : i ≠ g) (ug : u ≠ g) (i0 : i ≠ 0) (u0 : u ≠ 0) (ri : r ≠ i) (ru : r ≠ u) (rg : r = g → r = 0) (dai : da ≠ i) (dau : da ≠ u) (dag : da = g → da = 0) (dbi : db ≠ i) (dbu : db ≠ u) (w0 : (A 0).whole = 0) :
    Mid A (hangA (hangA (hangA A g s i) i 0 u) u 1 da) i u { A i with up := g, d0 := u } { A u with up := i, d1 := da } := by
  -- the worlds between
  have p1i : hangA A g s i i = (A i).put 0 (g : Int) := hangA_it (Ne.symm ig) i0
  have p1u : hangA A g s i u = A u := hangA_ne ug (fun _ => Ne.symm iu)
  have p1g : hangA A g s i g = (A g).put (1 + s) (i : Int) := hangA_up (Ne.symm ig)
  have p1o : ∀ j, j ≠ i → j ≠ g → hangA A g s i j = A j := fun j h1 h2 => hangA_ne h2 (fun _ => h1)
  have p2i : hangA (hangA A g s i) i 0 u i = ((A i).put 0 (g : Int)).put 1 (u : Int) := by rw [hangA_up iu, p1i]
  have p2u : hangA (hangA A g s i) i 0 u u = (A u).put 0 (i : Int) := by rw [hangA_it iu u0, p1u]
  have p2o : ∀ j, j ≠ i → j ≠ u → hangA (hangA A g s i) i 0 u j = hangA A g s i j := fun j h1 h2 => hangA_ne h1 (fun _ => h2)
  have p3u : hangA (hangA (hangA A g s i) i 0 u) u 1 da u = ((A u).put 0 (i : Int)).put 2 (da : Int) := by rw [hangA_up (Ne.symm dau), p2u]
  have p3i : hangA (hangA (hangA A g s i) i 0 u) u 1 da i = ((A i).put 0 (g : Int)).put 1 (u : Int) := by rw [hangA_ne iu (fun _ => Ne.symm dai), p2i]
  have p3d : da ≠ 0 → hangA (hangA (hangA A g s i) i 0 u) u 1 da da = (A da).put 0 (u : Int) := fun h => by
    rw [hangA_it (Ne.symm dau) h, p2o da dai dau, p1o da dai (fun e => h (dag e))]
  have p3o : ∀ j, j ≠ u → (da ≠ 0 → j ≠ da) → hangA (hangA (hangA A g s i) i 0 u) u 1 da j = hangA (hangA A g s i) i 0 u j := fun j h1 h2 => hangA_ne h1 h2
  generalize hC : hangA (hangA (hangA A g s i) i 0 u) u 1 da = C at *
  have cw : ∀ j, j ≠ i → j ≠ u → (C j).whole = (A j).whole := fun j h1 h2 => by
    by_cases hj : j = da
    · by_cases h0 : da = 0
      · rw [p3o j h2 (fun h => absurd h0 h), p2o j h1 h2]
        by_cases hg : j = g
        · rw [hg, p1g]
          match s, hs2 with
          | 0, _ => rfl
          | 1, _ => rfl
        · rw [p1o j h1 hg]
      · rw [hj, p3d h0]; rfl
    · rw [p3o j h2 (fun _ => hj), p2o j h1 h2]
      by_cases hg : j = g
      · rw [hg, p1g]
        match s, hs2 with
        | 0, _ => rfl
        | 1, _ => rfl
      · rw [p1o j h1 hg]
  refine ⟨?_, ?_, cw⟩
  · rw [p3i]; simp [Th.put]
  · rw [p3u]; simp [Th.put]
end Go.Proofs.YtdnhoicfolkbnaaGreat
