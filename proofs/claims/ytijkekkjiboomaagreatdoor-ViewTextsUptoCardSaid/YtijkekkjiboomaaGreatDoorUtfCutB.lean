/- The contract of utf.Cut: the walk. -/
import Derived.Test.YtijkekkjiboomaaGreatDoorPart14
namespace Go.Proofs.YtijkekkjiboomaaGreatDoor
open Go.RowKit Go.Shelf
set_option linter.unusedVariables false
set_option maxRecDepth 100000
attribute [local go_sem] Oper.semAt_some

/-- Between two rounds. -/
def CutI (fr tt : Int) (w : World) (pre : List (Nat × Nat)) (W : World) : Prop :=
  (Low tt pre) ∧ (Boxed W (w.heap.size + 2) 3 (.int .i64 (cBeg fr pre)) ∧ (Boxed W (w.heap.size + 3) 3 (.int .i64 (cEnd pre)) ∧ (Boxed W w.heap.size 3 (.int .i64 fr) ∧ (Boxed W (w.heap.size + 1) 3 (.int .i64 tt) ∧ Below w.heap.size w W))))
theorem cutI_own (fr tt : Int) (w : World) (N : Nat) (hN : w.heap.size ≤ N) : OwnFrom N (CutI fr tt w) :=
  OwnFrom.and (ownFrom_pure _ _) (OwnFrom.and (Own.from (boxed_own _ _ _) _) (OwnFrom.and (Own.from (boxed_own _ _ _) _) (OwnFrom.and (Own.from (boxed_own _ _ (fun _ => .int .i64 fr)) _) (OwnFrom.and (Own.from (boxed_own _ _ (fun _ => .int .i64 tt)) _) (ownFrom_below (Nat.le_refl _) hN)))))
/-- A round that leaves. -/
def CutX (fr tt : Int) (w : World) (c : Code) (xs : List (Nat × Nat)) (W : World) : Prop := c = .exit 0 ∧ ∃ pre x, xs = pre ++ [x] ∧ tt ≤ (x.1 : Int) ∧ CutI fr tt w pre W
theorem cutX_own (fr tt : Int) (w : World) (N : Nat) (hN : w.heap.size ≤ N) (c : Code) : OwnFrom N (CutX fr tt w c) := by
  rintro xs A B row ⟨hc, pre, x, he, hx, hi⟩ hg hr
  exact ⟨hc, pre, x, he, hx, cutI_own fr tt w N hN pre A B row hi hg hr⟩

set_option maxHeartbeats 4000000 in
theorem utf_cut (s : ByteArray) (hs : s.size ≤ 281474976710656) (fr tt : Int) (w : World) (hT : TabsU w) : Calls Tryz.prog 69 #[.string s, .int .i64 fr, .int .i64 tt] w fun e w' => e = .returned (.string (cutOf s.data.toList fr tt)) ∧ Touch (fun _ => False) w w' := by
  have hln : (rsOf s.data.toList).length ≤ s.size := by have := rsOf_len s.data.toList; simpa using this
  refine (callsIn_wide (n := 3)).1 ?_
  refine callsIn_of_wp_marks Tryz.func69 rfl trivial ?_ rfl
  simp only [Tryz.ntmps69, List.size_toArray, List.length_cons, List.length_nil, Nat.reduceAdd, Nat.reduceSub, Array.replicate_succ, Array.replicate_zero, List.push_toArray, List.append_toArray, List.nil_append, List.cons_append]
  gi_wp2_with fail
  refine ⟨trivial, (callsIn_wide.2 (utf_runes s _)).mono ?_⟩
  rintro e w1 ⟨rfl, rfl⟩
  gi_wp2
  rename_i K0 hK0
  have c0 := ((((Boxed.new w 3 (.int .i64 fr)).alloc (.cells #[.int .i64 tt] 3)).alloc (.cells #[.int .i64 0] 3)).alloc (.cells #[.int .i64 0] 3)).alloc (.cells #[.string s] 9)
  have c1 := (((Boxed.new (w.alloc (.cells #[.int .i64 fr] 3)) 3 (.int .i64 tt)).alloc (.cells #[.int .i64 0] 3)).alloc (.cells #[.int .i64 0] 3)).alloc (.cells #[.string s] 9)
  have c2 := ((Boxed.new ((w.alloc (.cells #[.int .i64 fr] 3)).alloc (.cells #[.int .i64 tt] 3)) 3 (.int .i64 0)).alloc (.cells #[.int .i64 0] 3)).alloc (.cells #[.string s] 9)
  have c3 := (Boxed.new (((w.alloc (.cells #[.int .i64 fr] 3)).alloc (.cells #[.int .i64 tt] 3)).alloc (.cells #[.int .i64 0] 3)) 3 (.int .i64 0)).alloc (.cells #[.string s] 9)
  have c4 := Boxed.new ((((w.alloc (.cells #[.int .i64 fr] 3)).alloc (.cells #[.int .i64 tt] 3)).alloc (.cells #[.int .i64 0] 3)).alloc (.cells #[.int .i64 0] 3)) 9 (.string s)
  simp only [World.size_alloc] at c1 c2 c3 c4
  have hB0 : Below w.heap.size w (((((w.alloc (.cells #[.int .i64 fr] 3)).alloc (.cells #[.int .i64 tt] 3)).alloc (.cells #[.int .i64 0] 3)).alloc (.cells #[.int .i64 0] 3)).alloc (.cells #[.string s] 9)) := (((((Below.refl _ w).alloc (Nat.le_refl _) _).alloc (by simp) _).alloc (by simp; omega) _).alloc (by simp; omega) _).alloc (by simp; omega) _
  have hsz : (((((w.alloc (.cells #[.int .i64 fr] 3)).alloc (.cells #[.int .i64 tt] 3)).alloc (.cells #[.int .i64 0] 3)).alloc (.cells #[.int .i64 0] 3)).alloc (.cells #[.string s] 9)).heap.size = w.heap.size + 5 := by simp
  generalize hW0 : (((((w.alloc (.cells #[.int .i64 fr] 3)).alloc (.cells #[.int .i64 tt] 3)).alloc (.cells #[.int .i64 0] 3)).alloc (.cells #[.int .i64 0] 3)).alloc (.cells #[.string s] 9)) = W0 at *
  refine wpIn_rangeFunc_ownF rfl (by decide) (gf := 103) (lb := #[.pointer (some ⟨w.heap.size + 1 + 1 + 1 + 1, 0, none⟩)]) rfl trivial (enters_of Tryz.func103 (by kernel_rfl) rfl)
    (iter_of _ (w.heap.size + 1 + 1 + 1 + 1) s (by omega) _ (hT.keep (Touch.ofBelow hB0)) c4.cell) walksK_t walksK_b (Below.refl _ _) (fun _ => rfl)
    (CutI fr tt w) (CutX fr tt w) (cutI_own fr tt w _ (by omega)) (fun c => cutX_own fr tt w _ (by omega) c)
    ⟨fun y hy => by simp at hy, c2, c3, c0, c1, hB0⟩
    (fun x => { tmps := #[.string s, .int .i64 fr, .int .i64 tt, undef, .pointer (some ⟨w.heap.size, 0, none⟩), .pointer (some ⟨w.heap.size + 1, 0, none⟩), .string ⟨#[]⟩, .pointer (some ⟨w.heap.size + 1 + 1, 0, none⟩), .pointer (some ⟨w.heap.size + 1 + 1 + 1, 0, none⟩), .int .i64 (x.1 : Int), .int .i32 (x.2 : Int), .string s, .func (.func 103) #[] #[.pointer (some ⟨w.heap.size + 1 + 1 + 1 + 1, 0, none⟩)], .int .i64 (x.1 : Int), .int .i32 (x.2 : Int), undef, undef, undef, undef, undef, undef, undef, undef, undef, undef, undef, undef, undef, undef, undef, undef], defers := [] }) ?assign ?body ?done ?stop
  case assign =>
    intro l x W K hK
    gi_wp2
    first | exact hK | simpa [enc2] using hK
  case body =>
    rintro l pre x W ⟨hU, d2, d3, d0, d1, hB⟩ hlt
    have k0 := d0.cell
    have k1 := d1.cell
    have k3 : W.cell? ⟨w.heap.size + 1 + 1 + 1, 0, none⟩ = some (.int .i64 (cEnd pre)) := d3.cell
    have f3 : W.frozen? ⟨w.heap.size + 1 + 1 + 1, 0, none⟩ = false := d3.frozen
    have HU : Hid (Low tt pre) := hU
    clear hU
    by_cases hn : (x.1 : Int) < tt
    · have HA : Hid (∀ w, Calls Tryz.prog 91 #[.int .i32 (x.2 : Int)] w fun e w' => e = .returned (.int .i64 (Go.Lib.runeLen (x.2 : Int))) ∧ w' = w) := fun w => runeLen_any x.2 w
      have hmx : Tryz.prog.follows .mixedOrders = true := by kernel_rfl
      have hbd := cEnd_bd pre
      have hrb := runeLen_bd (x.2 : Int)
      obtain ⟨W1, hW1e⟩ : ∃ W1, W1 = (W.setCell ⟨w.heap.size + 1 + 1 + 1, 0, none⟩ (.int .i64 (IntKind.i64.wrap (cEnd pre + Go.Lib.runeLen (x.2 : Int))))).drew := ⟨_, rfl⟩
      have hwr : IntKind.i64.wrap (cEnd pre + Go.Lib.runeLen (x.2 : Int)) = cEnd pre + Go.Lib.runeLen (x.2 : Int) := IntWalk.i64_in _ (by omega)
      have m3 : Boxed W1 (w.heap.size + 1 + 1 + 1) 3 (.int .i64 (cEnd pre + Go.Lib.runeLen (x.2 : Int))) := by rw [hW1e, hwr]; exact boxed_drew (d3.set _)
      have m2 : Boxed W1 (w.heap.size + 1 + 1) 3 (.int .i64 (cBeg fr pre)) := by rw [hW1e]; exact boxed_drew (d2.other (by omega) _)
      have m0 : Boxed W1 w.heap.size 3 (.int .i64 fr) := by rw [hW1e]; exact boxed_drew (d0.other (by omega) _)
      have m1 : Boxed W1 (w.heap.size + 1) 3 (.int .i64 tt) := by rw [hW1e]; exact boxed_drew (d1.other (by omega) _)
      have hk1 : KeepsOthers W W1 := by rw [hW1e]; exact (KeepsOthers.setCell _ _ _).trans (KeepsOthers.drew _)
      have hB1 : Below w.heap.size w W1 := by rw [hW1e]; exact (hB.setCell (p := ⟨w.heap.size + 1 + 1 + 1, 0, none⟩) (by simp only; omega) _).drew
      have j3 := m3.cell
      have j2 := m2.cell
      have j0 := m0.cell
      have g2 := m2.frozen
      have HW1 : Hid (W1 = (W.setCell ⟨w.heap.size + 1 + 1 + 1, 0, none⟩ (.int .i64 (IntKind.i64.wrap (cEnd pre + Go.Lib.runeLen (x.2 : Int))))).drew) := hW1e
      by_cases hf : (x.1 : Int) < fr
      · have HEnd : Hid (ownPostK KeepsWalks (CutI fr tt w) (CutX fr tt w) (pre ++ [x]) W .normal ⟨#[], []⟩ (W1.setCell ⟨w.heap.size + 1 + 1, 0, none⟩ (.int .i64 (cEnd pre + Go.Lib.runeLen (x.2 : Int))))) := by
          have hk2 := hk1.trans (KeepsOthers.setCell W1 ⟨w.heap.size + 1 + 1, 0, none⟩ (.int .i64 (cEnd pre + Go.Lib.runeLen (x.2 : Int))))
          refine ⟨hk2, walks_of hk2, low_snoc HU.out hn, ?_, ?_, m0.other (by omega) _, m1.other (by omega) _, hB1.setCell (p := ⟨w.heap.size + 1 + 1, 0, none⟩) (by simp only; omega) _⟩
          · rw [cBeg_snoc, if_pos hf]; exact m2.set _
          · rw [cEnd_snoc]; exact m3.other (by omega) _
        clear hW0 hsz c0 c1 c2 c3 c4 d0 d1 d2 d3 hB0 hB HU hlt hln hK0 hT hW1e m0 m1 m2 m3 hk1 hB1 hwr hbd hrb
        generalize cEnd pre = T1 at *
        generalize Go.Lib.runeLen (x.2 : Int) = U1 at *
        generalize cBeg fr pre = T2 at *
        gi_wp2
        gi_region_with_o (refine ⟨trivial, ?_⟩; gi_at_call 91; refine (CallsIn.inRound l (callsIn_wide.2 (HA.out _))).mono ?_; rintro e w' ⟨rfl, rfl⟩)
        all_goals rw [← HW1.out]
        all_goals gi_wp2
        all_goals exact HEnd.out
      · have HEnd : Hid (ownPostK KeepsWalks (CutI fr tt w) (CutX fr tt w) (pre ++ [x]) W .normal ⟨#[], []⟩ W1) := by
          refine ⟨hk1, walks_of hk1, low_snoc HU.out hn, ?_, ?_, m0, m1, hB1⟩
          · rw [cBeg_snoc, if_neg hf]; exact m2
          · rw [cEnd_snoc]; exact m3
        clear hW0 hsz c0 c1 c2 c3 c4 d0 d1 d2 d3 hB0 hB HU hlt hln hK0 hT hW1e m0 m1 m2 m3 hk1 hB1 hwr hbd hrb
        generalize cEnd pre = T1 at *
        generalize Go.Lib.runeLen (x.2 : Int) = U1 at *
        generalize cBeg fr pre = T2 at *
        gi_wp2
        gi_region_with_o (refine ⟨trivial, ?_⟩; gi_at_call 91; refine (CallsIn.inRound l (callsIn_wide.2 (HA.out _))).mono ?_; rintro e w' ⟨rfl, rfl⟩)
        all_goals rw [← HW1.out]
        all_goals gi_wp2
        all_goals exact HEnd.out
    · have HEnd : Hid (CutX fr tt w (.exit 0) (pre ++ [x]) W) := ⟨rfl, pre, x, rfl, by omega, HU.out, d2, d3, d0, d1, hB⟩
      clear hW0 hsz c0 c1 c2 c3 c4 d0 d1 d2 d3 hB0 hB hK0
      gi_wp2
      exact ⟨KeepsOthers.refl _, HEnd.out⟩
  case done =>
    rintro D ys W hD rfl ⟨hU, d2, d3, d0, d1, hB⟩ hK
    have hte := cut_end hU
    rw [show enumR 0 (rsOf s.data.toList) = enumR 0 ((rsOf s.data.toList).take tt.toNat) from by rw [hte]] at d2 d3
    rw [cBeg_enum fr _ (fun r hr => rsOf_ok _ r (List.mem_of_mem_take hr))] at d2
    rw [cEnd_enum _ (fun r hr => rsOf_ok _ r (List.mem_of_mem_take hr))] at d3
    obtain ⟨hb1, hb2, hb3⟩ := cut_bytes s fr tt
    generalize (encAll (((rsOf s.data.toList).take tt.toNat).take fr.toNat)).length = b at *
    generalize (encAll ((rsOf s.data.toList).take tt.toNat)).length = e at *
    have k2 : W.cell? ⟨w.heap.size + 1 + 1, 0, none⟩ = some (.int .i64 (b : Int)) := d2.cell
    have k3 : W.cell? ⟨w.heap.size + 1 + 1 + 1, 0, none⟩ = some (.int .i64 (e : Int)) := d3.cell
    have HX : Hid (s.extract b e = cutOf s.data.toList fr tt) := hb3
    have hxs : (s.extract b e).size ≤ 281474976710656 := by rw [ByteArray.size_extract]; omega
    have HCl : Hid (∀ w, Calls Tryz.prog 92 #[.string (s.extract b e)] w fun e' w' => e' = .returned (.string (s.extract b e)) ∧ Touch (fun _ => False) w w') := fun w => clone_any _ hxs w
    have HB : Hid (Below w.heap.size w W) := hB
    have hKD : D < W.heap.size := (Array.getElem?_eq_some_iff.1 hK).1
    have HDz : Hid (w.heap.size ≤ D) := by rw [Hid]; omega
    clear hW0 hsz c0 c1 c2 c3 c4 d0 d1 d2 d3 hB0 hB hU hte hb3 hxs hT hln
    gi_wp2_with fail
    refine ⟨trivial, (callsIn_wide.2 (HCl.out _)).mono ?_⟩
    rintro e' W2 ⟨rfl, hT2⟩
    have hK2 : W2.heap[D]? = some (.deferred (some [])) := (hT2.block D hKD id).trans hK
    gi_wp2
    refine ⟨by simp, .inl ⟨_, _, rfl, run_takeDeferred hK2, ?_⟩⟩
    refine ⟨.string (cutOf s.data.toList fr tt), ?_, rfl, Touch.ofBelow ((HB.out.trans (hT2.below HB.out.size (fun _ _ h => h))).trans (belowK_b (w := w) (Nat.le_refl _) W2 D _ _ HDz.out hK2 rfl rfl))⟩
    rw [← HX.out]
    simp [results, Tryz.f69, go_sem]
  case stop =>
    rintro D c xs W hD hpre ⟨rfl, pre, x, rfl, hx, hU, d2, d3, d0, d1, hB⟩ hK
    have hte := cut_mid hpre hU hx
    rw [hte] at d2 d3
    rw [cBeg_enum fr _ (fun r hr => rsOf_ok _ r (List.mem_of_mem_take hr))] at d2
    rw [cEnd_enum _ (fun r hr => rsOf_ok _ r (List.mem_of_mem_take hr))] at d3
    obtain ⟨hb1, hb2, hb3⟩ := cut_bytes s fr tt
    generalize (encAll (((rsOf s.data.toList).take tt.toNat).take fr.toNat)).length = b at *
    generalize (encAll ((rsOf s.data.toList).take tt.toNat)).length = e at *
    have k2 : W.cell? ⟨w.heap.size + 1 + 1, 0, none⟩ = some (.int .i64 (b : Int)) := d2.cell
    have k3 : W.cell? ⟨w.heap.size + 1 + 1 + 1, 0, none⟩ = some (.int .i64 (e : Int)) := d3.cell
    have HX : Hid (s.extract b e = cutOf s.data.toList fr tt) := hb3
    have hxs : (s.extract b e).size ≤ 281474976710656 := by rw [ByteArray.size_extract]; omega
    have HCl : Hid (∀ w, Calls Tryz.prog 92 #[.string (s.extract b e)] w fun e' w' => e' = .returned (.string (s.extract b e)) ∧ Touch (fun _ => False) w w') := fun w => clone_any _ hxs w
    have HB : Hid (Below w.heap.size w W) := hB
    have hKD : D < W.heap.size := (Array.getElem?_eq_some_iff.1 hK).1
    have HDz : Hid (w.heap.size ≤ D) := by rw [Hid]; omega
    clear hW0 hsz c0 c1 c2 c3 c4 d0 d1 d2 d3 hB0 hB hU hte hb3 hxs hT hln hpre hx
    gi_wp2_with fail
    refine ⟨trivial, (callsIn_wide.2 (HCl.out _)).mono ?_⟩
    rintro e' W2 ⟨rfl, hT2⟩
    have hK2 : W2.heap[D]? = some (.deferred (some [])) := (hT2.block D hKD id).trans hK
    gi_wp2
    refine ⟨by simp, .inl ⟨_, _, rfl, run_takeDeferred hK2, ?_⟩⟩
    refine ⟨.string (cutOf s.data.toList fr tt), ?_, rfl, Touch.ofBelow ((HB.out.trans (hT2.below HB.out.size (fun _ _ h => h))).trans (belowK_b (w := w) (Nat.le_refl _) W2 D _ _ HDz.out hK2 rfl rfl))⟩
    rw [← HX.out]
    simp [results, Tryz.f69, go_sem]
end Go.Proofs.YtijkekkjiboomaaGreatDoor
