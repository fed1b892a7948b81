/- Contracts of slices.Clone, Grow, Concat at runs. -/
import Derived.Test.YtijkekkjiboomaaGreatDoorPart2
import Derived.Lib.AppendZeros
import Derived.Test.YtijkekkjiboomaaGreatDoorVw8
namespace Go.Proofs.YtijkekkjiboomaaGreatDoor
open Go.RowKit
set_option linter.unusedVariables false
set_option linter.unusedSimpArgs false
set_option maxRecDepth 100000

theorem NewW.empty (w : World) : NewW w (w.alloc (.cells #[] 48)) (.slice (some ⟨w.heap.size, 0, none⟩) 0 0) [] :=
  ⟨⟨rfl, .inr ⟨w.heap.size, 0, #[], rfl, Nat.zero_le _, heap_alloc_new _ _, Nat.le_refl _, Nat.zero_le _, rfl, rfl⟩⟩, (Touch.refl _ w).alloc _, fun k hk => by simp [Value.ownBlock] at hk; omega⟩
set_option maxHeartbeats 800000 in
theorem cloneW_any (l : List Rw) (v : Value) (w : World) (hs : SlW w v l) (hll : l.length ≤ 1073741824) :
    Calls Tryz.prog 72 #[v] w fun e w' => ∃ v', e = .returned v' ∧ NewW w w' v' l := by
  have heq := Lib.run_eql_slice_nil (P := Tryz.prog)
  obtain ⟨ao, cap, rfl, hno, _, _, hL⟩ := hs
  cases ao with
  | none =>
    have hl : l = [] := by
      rcases hL with h | ⟨b, o, e, _⟩
      · exact h
      · cases e
    subst hl
    have HQ : Hid (NewW w w (.slice none 0 0) []) := NewW.nil w w (Touch.refl _ _)
    go_enter Tryz.func72, Tryz.ntmps72
    go_wp2_with fail
    go_ret
    exact ⟨_, rfl, HQ.out⟩
  | some ad =>
    obtain ⟨v', w', hrun, hN, _⟩ := (NewW.empty w).app (some ad) l.length cap l rfl (fun h => by cases h) (hL.touch ((Touch.refl _ w).alloc _)) (by simp; omega)
    have HQ : Hid (NewW w w' v' l) := by rw [List.nil_append] at hN; exact hN
    obtain ⟨ao4, cap4, rfl, _⟩ := hN.shape
    clear hN hL hno
    go_enter Tryz.func72, Tryz.ntmps72
    go_wp2_with (at_builtin; refine wpList_append_runW rfl _ _ rfl _ _ _ rfl rfl hrun ?_)
    go_ret
    exact ⟨_, rfl, HQ.out⟩
set_option maxHeartbeats 800000 in
theorem growW_any (m : Int) (n : Nat) (hm : m = (n : Int)) (w : World) (hn : n ≤ 1073741824) :
    Calls Tryz.prog 70 #[.slice none 0 0, .int .i64 m] w fun e w' => ∃ v', e = .returned v' ∧ NewW w w' v' [] := by
  subst hm
  by_cases h0 : n = 0
  · subst h0
    have HQ : Hid (NewW w w (.slice none 0 0) []) := NewW.nil w w (Touch.refl _ _)
    go_enter Tryz.func70, Tryz.ntmps70
    go_wp2_with fail
    go_ret
    exact ⟨_, rfl, HQ.out⟩
  · obtain ⟨i0, hi, hz0, hz1, hz2⟩ := info_parts infoW
    have hcg := grownCap_ge w n 0 48
    have hcl := grownCap_le_maxLen w n 0 48 (by unfold maxLen; omega)
    have hrun : ∀ ty, (Builtin.append_ #[22, 3] ty #[.slice none 0 0, .int .i64 (n : Int)]).run Tryz.prog w = _ := fun ty => Lib.run_append_nil_zeros (P := Tryz.prog) w 22 3 ty 48 i0 _ .i64 .i64 Tryz.underlying22 Tryz.underlying3 hi hz0 n (by omega) (by omega) (by omega) (by rw [hz2]; omega)
    have HQ : Hid (NewW w (w.drew.alloc (.cells (Builtin.zeroCells (Value.agg #[.string ⟨#[]⟩, .bool false, .int .i64 0, .int .i64 0, .float .f64 0, .string ⟨#[]⟩, .slice none 0 0]).cells n ++ Builtin.zeroCells (Value.agg #[.string ⟨#[]⟩, .bool false, .int .i64 0, .int .i64 0, .float .f64 0, .string ⟨#[]⟩, .slice none 0 0]).cells (grownCap w n 0 48 - n)) 48)) (.slice (some ⟨w.heap.size, 0, none⟩) 0 (grownCap w n 0 48)) []) := by
      refine ⟨⟨rfl, .inr ⟨w.heap.size, _, _, rfl, Nat.zero_le _, heap_alloc_new w.drew _, Nat.zero_le _, hcl, ?_, ?_⟩⟩, (Touch.refl _ w).drew.alloc _, fun k hk => by simp [Value.ownBlock] at hk; omega⟩
      · have hz : (Value.agg #[.string ⟨#[]⟩, .bool false, .int .i64 0, .int .i64 0, .float .f64 0, .string ⟨#[]⟩, .slice none 0 0]).cells.size = 7 := rfl
        simp only [Array.size_append, size_zeroCells, hz, ← Nat.add_mul]
        congr 1
        omega
      · simp [cellsW]
    have hsl := fun W => sliceW_to (some ⟨w.heap.size, 0, none⟩) n (grownCap w n 0 48) 0 (Nat.zero_le _) W
    have hs0 := fun W => sliceW_to none 0 0 0 (Nat.zero_le _) W
    have hpos : 0 < (n : Int) := by omega
    generalize (grownCap w n 0 48) = cp at *
    generalize (w.drew.alloc (.cells (Builtin.zeroCells (Value.agg #[.string ⟨#[]⟩, .bool false, .int .i64 0, .int .i64 0, .float .f64 0, .string ⟨#[]⟩, .slice none 0 0]).cells n ++ Builtin.zeroCells (Value.agg #[.string ⟨#[]⟩, .bool false, .int .i64 0, .int .i64 0, .float .f64 0, .string ⟨#[]⟩, .slice none 0 0]).cells (cp - n)) 48)) = w1 at *
    clear hcg hcl hi hz0 hz1 hz2 h0
    go_enter Tryz.func70, Tryz.ntmps70
    go_wp2_with (at_builtin; refine Lib.wpList_append_run _ rfl _ _ _ _ rfl _ _ rfl rfl _ _ (hrun _) ?_)
    go_ret
    exact ⟨_, rfl, HQ.out⟩
set_option maxHeartbeats 1600000 in
theorem concatW_any (a b c : List Rw) (va vb vc : Value) (w : World) (g : Nat) (c0 : w.cell? ⟨g, 0, none⟩ = some va) (c1 : w.cell? ⟨g, 1, none⟩ = some vb) (c2 : w.cell? ⟨g, 2, none⟩ = some vc) (ha : SlW w va a) (hb : SlW w vb b) (hc : SlW w vc c) (hla : a.length ≤ 268435456) (hlb : b.length ≤ 268435456) (hlc : c.length ≤ 268435456) :
    Calls Tryz.prog 50 #[.slice (some ⟨g, 0, none⟩) 3 3] w fun e w' => ∃ v', e = .returned v' ∧ NewW w w' v' (a ++ b ++ c) := by
  obtain ⟨aoa, capa, rfl, na, _, _, La⟩ := ha
  obtain ⟨aob, capb, rfl, nb, _, _, Lb⟩ := hb
  obtain ⟨aoc, capc, rfl, nc, _, _, Lc⟩ := hc
  have HG := fun m h W => growW_any m (a.length + b.length + c.length) h W (by omega)
  have HL : Hid ((LiesW w aoa a ∧ LiesW w aob b ∧ LiesW w aoc c) ∧ (aoa = none → capa = 0) ∧ (aob = none → capb = 0) ∧ (aoc = none → capc = 0)) := ⟨⟨La, Lb, Lc⟩, na, nb, nc⟩
  have hA : ¬ ((a.length : Int) < 0) := by omega
  have hAB : ¬ ((a.length : Int) + (b.length : Int) < 0) := by omega
  have hABC : ¬ ((a.length : Int) + (b.length : Int) + (c.length : Int) < 0) := by omega
  clear La Lb Lc na nb nc
  go_enter Tryz.func50, Tryz.ntmps50
  go_wp2_with fail
  refine wp_loop_rounds 4 ?_
  rw [rounds_succ]
  go_wp2_with fail
  rw [rounds_succ]
  go_wp2_with fail
  rw [rounds_succ]
  go_wp2_with fail
  rw [rounds_succ]
  go_wp2_with fail
  refine (HG _ (by omega) _).mono ?_
  rintro e w1 ⟨v1, rfl, hN⟩
  have d0 : w1.cell? ⟨g, 0, none⟩ = some (.slice aoa a.length capa) := (hN.touch.cell (World.block_lt_of_cell? _ _ c0) id 0).trans c0
  have d1 : w1.cell? ⟨g, 1, none⟩ = some (.slice aob b.length capb) := (hN.touch.cell (World.block_lt_of_cell? _ _ c1) id 1).trans c1
  have d2 : w1.cell? ⟨g, 2, none⟩ = some (.slice aoc c.length capc) := (hN.touch.cell (World.block_lt_of_cell? _ _ c2) id 2).trans c2
  obtain ⟨v2, w2, hrun2, hN2, _⟩ := hN.app aoa a.length capa a rfl HL.out.2.1 (HL.out.1.1.touch hN.touch) (by simp; omega)
  have e1 : w2.cell? ⟨g, 1, none⟩ = some (.slice aob b.length capb) := (hN2.touch.cell (World.block_lt_of_cell? _ _ c1) id 1).trans c1
  have e2 : w2.cell? ⟨g, 2, none⟩ = some (.slice aoc c.length capc) := (hN2.touch.cell (World.block_lt_of_cell? _ _ c2) id 2).trans c2
  obtain ⟨v3, w3, hrun3, hN3, _⟩ := hN2.app aob b.length capb b rfl HL.out.2.2.1 (HL.out.1.2.1.touch hN2.touch) (by simp; omega)
  have f2 : w3.cell? ⟨g, 2, none⟩ = some (.slice aoc c.length capc) := (hN3.touch.cell (World.block_lt_of_cell? _ _ c2) id 2).trans c2
  obtain ⟨v4, w4, hrun4, hN4, _⟩ := hN3.app aoc c.length capc c rfl HL.out.2.2.2 (HL.out.1.2.2.touch hN3.touch) (by simp; omega)
  have HQ : Hid (NewW w w4 v4 (a ++ b ++ c)) := by rw [List.nil_append] at hN4; exact hN4
  obtain ⟨ao1, cap1, rfl, _⟩ := hN.shape
  obtain ⟨ao2, cap2, rfl, _⟩ := hN2.shape
  obtain ⟨ao3, cap3, rfl, _⟩ := hN3.shape
  obtain ⟨ao4, cap4, rfl, _⟩ := hN4.shape
  clear hN hN2 hN3 hN4 c0 c1 c2 HG
  simp only [List.nil_append, List.length_append] at hrun2 hrun3 hrun4
  go_wp2_with fail
  refine wp_loop_rounds 4 ?_
  rw [rounds_succ]
  go_wp2_with (at_builtin; refine wpList_append_runW rfl _ _ rfl _ _ _ rfl rfl hrun2 ?_)
  rw [rounds_succ]
  go_wp2_with (at_builtin; refine wpList_append_runW rfl _ _ rfl _ _ _ rfl rfl hrun3 ?_)
  rw [rounds_succ]
  go_wp2_with (at_builtin; refine wpList_append_runW rfl _ _ rfl _ _ _ rfl rfl hrun4 ?_)
  rw [rounds_succ]
  go_wp2_with fail
  go_ret
  exact ⟨_, rfl, by
    have := HQ.out
    simp only [List.nil_append, List.length_append] at this
    exact this⟩
end Go.Proofs.YtijkekkjiboomaaGreatDoor

/- Views: Patch, Len. -/
namespace Go.Proofs.YtijkekkjiboomaaGreatDoor
open Go.RowKit Go.Maps
set_option linter.unusedVariables false
set_option linter.unusedSimpArgs false
set_option maxRecDepth 100000

theorem NewW.slRn {W w : World} {v : Value} {raw : List Rw} {L : List Rn} (h : NewW W w v raw) (m : AllMt w raw L) : SlRn w v L := ⟨raw, h.sl, m⟩
theorem concat_any {w : World} {va vb vc : Value} {A B C : List Rn} (g : Nat) (c0 : w.cell? ⟨g, 0, none⟩ = some va) (c1 : w.cell? ⟨g, 1, none⟩ = some vb) (c2 : w.cell? ⟨g, 2, none⟩ = some vc) (ha : SlRn w va A) (hb : SlRn w vb B) (hc : SlRn w vc C) (la : A.length ≤ 2000000) (lb : B.length ≤ 2000000) (lc : C.length ≤ 2000000) :
    Calls Tryz.prog 50 #[.slice (some ⟨g, 0, none⟩) 3 3] w fun e w' => ∃ v', e = .returned v' ∧ SlRn w' v' (A ++ B ++ C) ∧ Touch (fun _ => False) w w' := by
  obtain ⟨ra, a1, a2⟩ := ha
  obtain ⟨rb, b1, b2⟩ := hb
  obtain ⟨rc, d1, d2⟩ := hc
  have l1 := a2.len
  have l2 := b2.len
  have l3 := d2.len
  refine (concatW_any ra rb rc va vb vc w g c0 c1 c2 a1 b1 d1 (by omega) (by omega) (by omega)).mono ?_
  rintro e w' ⟨v', rfl, h⟩
  exact ⟨v', rfl, h.slRn (((a2.append b2).append d2).touch h.touch), h.touch⟩
theorem tot_nil : tot [] = 0 := rfl
theorem okL_cut {L : List Rn} (ok : OkL L) (fr til : Int) : OkL (cutP L fr til) := (cutP_cn ok fr til).okL
set_option maxHeartbeats 16000000 in
theorem patch_any {w : World} {va vl : Value} {A L : List Rn} (ha : SlRn w va A) (hl : SlRn w vl L) (oa : OkL A) (ol : OkL L) (ta : tot A ≤ 300000) (tl : tot L ≤ 300000) (hT : TabsU w) (pt n : Int) (hp : -9223372036854775808 ≤ pt ∧ pt ≤ 9223372036854775807) (hn : -9223372036854775808 ≤ n ∧ n ≤ 9223372036854775807) :
    Calls Tryz.prog 23 #[va, .int .i64 pt, .int .i64 n, vl] w fun e w' => ∃ v', e = .returned v' ∧ SlRn w' v' (patchP A pt n L) ∧ Touch (fun _ => False) w w' := by
  have hLb := lenL_le (tot_small (L := A) (by omega))
  have hAl := tot_len A
  have hlb : lenL A ≤ 1048576 * 300000 := by
    have : A.length ≤ 300000 := by omega
    omega
  obtain ⟨p, hpp⟩ : ∃ p, Hid (p = min (max pt 0) (lenL A : Int)) := ⟨_, Eq.refl _⟩
  obtain ⟨q, hqq⟩ : ∃ q, Hid (q = min (max n 0) ((lenL A : Int) - p)) := ⟨_, Eq.refl _⟩
  have p0 : 0 ≤ p := by rw [hpp.out]; omega
  have p1 : p ≤ (lenL A : Int) := by rw [hpp.out]; omega
  have q0 : 0 ≤ q := by rw [hqq.out]; omega
  have q1 : q ≤ (lenL A : Int) - p := by rw [hqq.out]; omega
  have HP : Hid (patchP A pt n L = cleanP (cutP A 0 p ++ L ++ cutP A (p + q) (lenL A))) := by rw [hqq.out, hpp.out]; rfl
  have HLe : Hid (∀ W, Touch (fun _ => False) w W → Calls Tryz.prog 41 #[va] W fun e w' => e = .returned (.int .i64 (lenL A : Int)) ∧ Touch (fun _ => False) W w') := fun W t => vlens_any (ha.touch t) (tot_small (by omega)) (by omega) (hT.keep t)
  have HCu : Hid (∀ W (f t : Int), Touch (fun _ => False) w W → 0 ≤ f ∧ f ≤ 1048576 * 300000 → 0 ≤ t ∧ t ≤ 1048576 * 300000 → Calls Tryz.prog 21 #[va, .int .i64 f, .int .i64 t] W fun e w' => ∃ v', e = .returned v' ∧ SlRn w' v' (cutP A f t) ∧ Touch (fun _ => False) W w') := fun W f t tt hf ht => cut_any (ha.touch tt) oa (by omega) (hT.keep tt) f t (by omega) (by omega)
  have HCl : Hid (∀ W v, Touch (fun _ => False) w W → SlRn W v (cutP A 0 p ++ L ++ cutP A (p + q) (lenL A)) → Calls Tryz.prog 18 #[v] W fun e w' => ∃ v', e = .returned v' ∧ SlRn w' v' (cleanP (cutP A 0 p ++ L ++ cutP A (p + q) (lenL A))) ∧ Touch (fun _ => False) W w') := fun W v t hs => clean_any hs (((okL_cut oa _ _).append ol).append (okL_cut oa _ _)) (by
    have h1 := cutP_tot A 0 p
    have h2 := cutP_tot A (p + q) (lenL A)
    rw [tot_append, tot_append]
    omega) (hT.keep t)
  have HLn : Hid ((cutP A 0 p).length ≤ 2000000 ∧ L.length ≤ 2000000 ∧ (cutP A (p + q) (lenL A)).length ≤ 2000000) := by
    have h1 := cutP_tot A 0 p
    have h2 := cutP_tot A (p + q) (lenL A)
    have h3 := tot_len (cutP A 0 p)
    have h4 := tot_len (cutP A (p + q) (lenL A))
    have h5 := tot_len L
    show _ ∧ _
    omega
  have HSl : Hid (∀ W, Touch (fun _ => False) w W → SlRn W vl L) := fun W t => hl.touch t
  rw [HP.out]
  obtain ⟨ao, ca, rfl, -, -, -⟩ := ha.shape
  obtain ⟨lo, cl, rfl, -, -, -⟩ := hl.shape
  clear ha hl oa ol ta tl hT HP hLb hAl
  generalize cleanP (cutP A 0 p ++ L ++ cutP A (p + q) (lenL A)) = R at *
  generalize lenL A = N at *
  go_enter Tryz.func23, Tryz.ntmps23
  go_wp2_with fail
  refine (HLe.out _ (Touch.refl _ _)).mono ?_
  rintro e W1 ⟨rfl, t1⟩
  have HT1 : Hid (Touch (fun _ => False) w W1) := t1
  clear t1 HLe
  go_upto_region 3 with fail
  rw [← hpp.out]
  clear hpp
  go_upto_region 4 with fail
  rw [← hqq.out]
  clear hqq
  go_wp2_with fail
  refine (HCu.out _ 0 p HT1.out (by omega) (by omega)).mono ?_
  rintro e W2 ⟨v2, rfl, s2, t2⟩
  obtain ⟨o2, c2, rfl, -, -, -⟩ := s2.shape
  have H2 : Hid (SlRn W2 (.slice o2 (cutP A 0 p).length c2) (cutP A 0 p) ∧ Touch (fun _ => False) w W2) := ⟨s2, HT1.out.trans t2⟩
  clear s2 t2 HT1
  go_wp2_with fail
  refine (HCu.out _ (p + q) N H2.out.2 (by omega) (by omega)).mono ?_
  rintro e W3 ⟨v3, rfl, s3, t3⟩
  obtain ⟨o3, c3, rfl, -, -, -⟩ := s3.shape
  have H3 : Hid (SlRn W3 (.slice o2 (cutP A 0 p).length c2) (cutP A 0 p) ∧ SlRn W3 (.slice o3 (cutP A (p + q) N).length c3) (cutP A (p + q) N) ∧ Touch (fun _ => False) w W3) := ⟨H2.out.1.touch t3, s3, H2.out.2.trans t3⟩
  clear s3 t3 H2 HCu
  generalize cutP A 0 p = C1 at *
  generalize cutP A (p + q) N = C3 at *
  obtain ⟨V, hV⟩ : ∃ V, Hid (V = W3.alloc (.cells #[.slice o2 C1.length c2, .slice lo L.length cl, .slice o3 C3.length c3] 22)) := ⟨_, Eq.refl _⟩
  have HV : Hid (Touch (fun _ => False) w V ∧ Calls Tryz.prog 50 #[.slice (some ⟨W3.heap.size, 0, none⟩) 3 3] V fun e w' => ∃ v', e = .returned v' ∧ SlRn w' v' (C1 ++ L ++ C3) ∧ Touch (fun _ => False) V w') := by
    have t := (Touch.refl (fun _ => False) W3).alloc (.cells #[.slice o2 C1.length c2, .slice lo L.length cl, .slice o3 C3.length c3] 22)
    have hh := heap_alloc_new W3 (.cells #[.slice o2 C1.length c2, .slice lo L.length cl, .slice o3 C3.length c3] 22)
    rw [hV.out]
    refine ⟨H3.out.2.2.trans t, ?_⟩
    exact concat_any (va := .slice o2 C1.length c2) (vb := .slice lo L.length cl) (vc := .slice o3 C3.length c3) _ (by rw [cell_of_block hh]; rfl) (by rw [cell_of_block hh]; rfl) (by rw [cell_of_block hh]; rfl) (H3.out.1.touch t) (HSl.out _ (H3.out.2.2.trans t)) (H3.out.2.1.touch t) HLn.out.1 HLn.out.2.1 HLn.out.2.2
  go_wp2_with fail
  rw [← hV.out]
  refine HV.out.2.mono ?_
  rintro e W4 ⟨v4, rfl, s4, t4⟩
  obtain ⟨o4, c4, rfl, -, -, -⟩ := s4.shape
  have H4 := HCl.out _ _ (HV.out.1.trans t4) s4
  have H5 : Hid (Calls Tryz.prog 18 #[.slice o4 (C1 ++ L ++ C3).length c4] W4 fun e w' => ∃ v', e = .returned v' ∧ SlRn w' v' R ∧ Touch (fun _ => False) W4 w') := H4
  have HT4 : Hid (Touch (fun _ => False) w W4) := HV.out.1.trans t4
  clear s4 t4 H4 HV hV HCl H3 HLn HSl
  generalize C1 ++ L ++ C3 = C at *
  go_wp2_with fail
  refine H5.out.mono ?_
  rintro e W5 ⟨v5, rfl, s5, t5⟩
  have HR : Hid (SlRn W5 v5 R ∧ Touch (fun _ => False) w W5) := ⟨s5, HT4.out.trans t5⟩
  obtain ⟨o5, c5, e5, -⟩ := s5.shape
  clear s5 t5 H5 HT4
  subst e5
  go_wp2_with fail
  go_ret
  exact ⟨_, rfl, HR.out⟩
set_option maxHeartbeats 4000000 in
theorem len_any {w : World} {va vm : Value} {L : List Rn} (hv : SlRn w va L) (ht : tot L ≤ 1048576) (hT : TabsU w) (hm : ∃ a n c, vm = .slice a n c) :
    Calls Tryz.prog 16 #[.agg #[va, vm]] w fun e w' => e = .returned (.int .i64 (lenL L : Int)) ∧ Touch (fun _ => False) w w' := by
  have HLe : Hid (∀ W, Touch (fun _ => False) w W → Calls Tryz.prog 41 #[va] W fun e w' => e = .returned (.int .i64 (lenL L : Int)) ∧ Touch (fun _ => False) W w') := fun W t => vlens_any (hv.touch t) (tot_small ht) (Nat.le_trans (tot_len L) ht) (hT.keep t)
  obtain ⟨ao, ca, rfl, -, -, -⟩ := hv.shape
  obtain ⟨am, nm, cm, rfl⟩ := hm
  clear hv ht hT
  generalize lenL L = N at *
  generalize L.length = n at *
  go_enter Tryz.func16, Tryz.ntmps16
  go_wp2_with fail
  refine (HLe.out _ ((Touch.refl _ _).alloc _)).mono ?_
  rintro e W1 ⟨rfl, t1⟩
  have HT1 : Hid (Touch (fun _ => False) w W1) := ((Touch.refl _ _).alloc _).trans t1
  clear t1 HLe
  go_wp2_with fail
  go_ret
  exact ⟨rfl, HT1.out⟩
end Go.Proofs.YtijkekkjiboomaaGreatDoor
