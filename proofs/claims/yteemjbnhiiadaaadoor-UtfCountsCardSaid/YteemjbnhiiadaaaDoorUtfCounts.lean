/- The statement UtfCounts, as a contract. -/
import Derived.Test.YteemjbnhiiadaaaDoorKnown3
import Derived.Test.YteemjbnhiiadaaaDoorUtfEachB
namespace Go.Proofs.YteemjbnhiiadaaaDoor
open Go.RowKit Go.Shelf
set_option linter.unusedVariables false
set_option maxRecDepth 100000
attribute [local go_sem] Oper.semAt_some

def CntI (rs : List Nat) (v : Value) (B : Nat) (w : World) (pre : List (Nat × Nat)) (W : World) : Prop :=
  (pre <+: enumR 0 rs) ∧ (Boxed W (B + 1) 3 (.int .i64 (pre.length : Int)) ∧ (Boxed W B 25 v ∧ (Boxed W w.heap.size 4 (.bool false) ∧ Below w.heap.size w W)))
theorem cntI_own (rs : List Nat) (v : Value) (B : Nat) (w : World) (N : Nat) (hN : w.heap.size ≤ N) : OwnFrom N (CntI rs v B w) :=
  OwnFrom.and (ownFrom_pure _ _) (OwnFrom.and (Own.from (boxed_own _ _ _) _) (OwnFrom.and (Own.from (boxed_own _ _ (fun _ => v)) _) (OwnFrom.and (Own.from (boxed_own _ _ (fun _ => .bool false)) _) (ownFrom_below (Nat.le_refl _) hN))))
def CntX (rs : List Nat) (c : Code) (xs : List (Nat × Nat)) (W : World) : Prop := ¬ (xs <+: enumR 0 rs)
theorem cntX_own (rs : List Nat) (N : Nat) (c : Code) : OwnFrom N (CntX rs c) := ownFrom_pure N (fun xs : List (Nat × Nat) => ¬ (xs <+: enumR 0 rs))

theorem row_own {β : Type} (a : Option Addr) (c : Nat) (rs : List Nat) (N : Nat) : OwnFrom N (fun (_ : β) W => Row W a c rs) := by
  rintro s A B row h hg hr
  refine ⟨h.1, h.2.1, fun hne => ?_⟩
  obtain ⟨g, e, hc⟩ := h.2.2 hne
  exact ⟨g, e, fun k hk => cell_kept (hc k hk) hg (fun r er => (hr r er).2)⟩
/-- A store into a box of a number leaves a slice of runes as it lay. -/
theorem row_set {W : World} {B : Nat} {a : Option Addr} {c : Nat} {rs : List Nat} {v : Value} {n : Int} (h : Row W a c rs) (hb : Boxed W B 3 (.int .i64 n)) : Row (W.setCell ⟨B, 0, none⟩ v) a c rs := by
  refine ⟨h.1, h.2.1, fun hne => ?_⟩
  obtain ⟨g, e, hc⟩ := h.2.2 hne
  have hgB : B ≠ g := by
    rintro rfl
    have h0 := hc 0 (List.length_pos_iff.2 hne)
    rw [hb.cell] at h0
    cases h0
  exact ⟨g, e, fun k hk => (World.cell?_of_block (a := ⟨g, k, none⟩) (heap_setCell_other W ⟨B, 0, none⟩ v g hgB)).trans (hc k hk)⟩

set_option maxHeartbeats 4000000 in
theorem utfCounts_any (s : ByteArray) (hs : s.size ≤ 9223372036854775807) (w : World) (hT : TabsU w) : Calls Tryd.prog 3 #[.string s] w fun e w' => e = .returned (.bool true) ∧ Touch (fun _ => False) w w' := by
  have HK : Hid (∀ w', Touch (fun _ => False) w w' → Calls Tryd.prog 9 #[] w' fun e w'' => e = .returned (.bool true) ∧ Touch (fun _ => False) w' w'') := fun w' h => known_any w' (hT.keep h)
  have HT : Hid (TabsU w) := hT
  have b0 := Boxed.new w 4 (.bool false)
  have h0 : Touch (fun _ => False) w (w.alloc (.cells #[.bool false] 4)) := (Touch.refl _ w).alloc _
  refine (callsIn_wide (n := 3)).1 ?_
  refine callsIn_of_wp_marks Tryd.func3 rfl trivial ?_ rfl
  simp only [Tryd.ntmps3, List.size_toArray, List.length_cons, List.length_nil, Nat.reduceAdd, Nat.reduceSub, Array.replicate_succ, Array.replicate_zero, List.push_toArray, List.append_toArray, List.nil_append, List.cons_append]
  clear hT
  gi_wp2_with fail
  refine ⟨trivial, (callsIn_wide.2 (HK.out _ h0)).mono ?_⟩
  rintro e w1 ⟨rfl, t1⟩
  have h1 := h0.trans t1
  have b1 := boxed_keep b0 t1
  clear h0 t1 b0
  by_cases hz : 4000 < s.size
  · have k1 := b1.cell
    have f1 := b1.frozen
    have H1 : Hid (Touch (fun _ => False) w w1) := h1
    clear h1
    gi_wp2
    have hc5 := (b1.set (.bool true)).cell
    refine ⟨.bool true, ?_, rfl, H1.out.setCell _ _ (fun h => by simp only at h; omega)⟩
    simp [results, Tryd.f3, go_sem, hc5]
  have hln : (rsOf s.data.toList).length ≤ 4000 := by have := rsOf_len s.data.toList; simp at this; omega
  have hcap0 := hln
  have P1 : Hid (∀ w', Touch (fun _ => False) w w' → Calls Tryd.prog 10 #[.string s] w' fun e w'' => e = .returned (.bool (runesOf s.data.toList).isSome) ∧ Touch (fun _ => False) w' w'') := fun w' h => utf_check s (by omega) w' (HT.out.keep h)
  have P2 : Hid (∀ w', Calls Tryd.prog 11 #[.string s] w' fun e w'' => e = .returned (.bool (runesOf s.data.toList).isSome) ∧ Touch (fun _ => False) w' w'') := fun w' => ref_check3 s (by omega) w'
  have P3 : Hid (∀ w', Touch (fun _ => False) w w' → Calls Tryd.prog 12 #[.string s] w' fun e w'' => e = .returned (.int .i64 ((rsOf s.data.toList).length : Int)) ∧ Touch (fun _ => False) w' w'') := fun w' h => utf_len s (by omega) w' (HT.out.keep h)
  have P4 : Hid (∀ w', Calls Tryd.prog 13 #[.string s] w' fun e w'' => e = .returned (.int .i64 ((rsOf s.data.toList).length : Int)) ∧ Touch (fun _ => False) w' w'') := fun w' => ref_len s (by omega) w'
  have P5 : Hid (∀ w', Touch (fun _ => False) w w' → Calls Tryd.prog 14 #[.string s] w' fun e w'' => e = .returned (.int .i64 (sum16 (rsOf s.data.toList) : Int)) ∧ Touch (fun _ => False) w' w'') := fun w' h => utf_len16 s (by omega) w' (HT.out.keep h)
  have P6 : Hid (∀ w', Calls Tryd.prog 15 #[.string s] w' fun e w'' => e = .returned (.int .i64 (sum16 (rsOf s.data.toList) : Int)) ∧ Touch (fun _ => False) w' w'') := fun w' => ref_len16 s (by omega) w'
  have P7 : Hid (∀ w', Calls Tryd.prog 16 #[.string s] w' (RunesAny s.data.toList w')) := fun w' => ref_runes_any s (by omega) w'
  generalize hbb : (runesOf s.data.toList).isSome = bb at *
  generalize hS : sum16 (rsOf s.data.toList) = S at *
  clear hS
  gi_wp2_with fail
  refine ⟨trivial, (callsIn_wide.2 (P1.out _ h1)).mono ?_⟩
  rintro e w2 ⟨rfl, t1⟩
  have h2 := h1.trans t1
  have b2 := boxed_keep b1 t1
  clear h1 t1 b1
  gi_wp2_with fail
  refine ⟨trivial, (callsIn_wide.2 (P2.out _)).mono ?_⟩
  rintro e w3 ⟨rfl, t1⟩
  have h3 := h2.trans t1
  have b3 := boxed_keep b2 t1
  clear h2 t1 b2
  gi_wp2_with fail
  refine ⟨trivial, (callsIn_wide.2 (P3.out _ h3)).mono ?_⟩
  rintro e w4 ⟨rfl, t1⟩
  have h4 := h3.trans t1
  have b4 := boxed_keep b3 t1
  clear h3 t1 b3
  gi_wp2_with fail
  refine ⟨trivial, (callsIn_wide.2 (P4.out _)).mono ?_⟩
  rintro e w5 ⟨rfl, t1⟩
  have h5 := h4.trans t1
  have b5 := boxed_keep b4 t1
  clear h4 t1 b4
  gi_wp2_with fail
  refine ⟨trivial, (callsIn_wide.2 (P5.out _ h5)).mono ?_⟩
  rintro e w6 ⟨rfl, t1⟩
  have h6 := h5.trans t1
  have b6 := boxed_keep b5 t1
  clear h5 t1 b5
  gi_wp2_with fail
  refine ⟨trivial, (callsIn_wide.2 (P6.out _)).mono ?_⟩
  rintro e w7 ⟨rfl, t1⟩
  have h7 := h6.trans t1
  have b7 := boxed_keep b6 t1
  clear h6 t1 b6
  gi_wp2_with fail
  refine ⟨trivial, (callsIn_wide.2 (P7.out _)).mono ?_⟩
  rintro e w8 ⟨t1, a, c, rfl, hrow⟩
  have h8 := h7.trans t1
  have b8 := boxed_keep b7 t1
  clear h7 t1 b7
  rw [hbb]
  have hcap := hrow.1
  have hmax := hrow.2.1
  gi_wp2_with fail
  refine ⟨trivial, (callsIn_wide.2 (utf_runes s _)).mono ?_⟩
  rintro e w9 ⟨rfl, rfl⟩
  gi_wp2
  rename_i K0 hK0
  have c0 := ((b8.alloc (.cells #[.slice a (rsOf s.data.toList).length c] 25)).alloc (.cells #[.int .i64 0] 3)).alloc (.cells #[.string s] 9)
  have c1 := ((Boxed.new w8 25 (.slice a (rsOf s.data.toList).length c)).alloc (.cells #[.int .i64 0] 3)).alloc (.cells #[.string s] 9)
  have c2 := (Boxed.new (w8.alloc (.cells #[.slice a (rsOf s.data.toList).length c] 25)) 3 (.int .i64 0)).alloc (.cells #[.string s] 9)
  have c3 := Boxed.new ((w8.alloc (.cells #[.slice a (rsOf s.data.toList).length c] 25)).alloc (.cells #[.int .i64 0] 3)) 9 (.string s)
  simp only [World.size_alloc] at c2 c3
  have hz0 := b8.lt
  have hB0 : Below w.heap.size w (((w8.alloc (.cells #[.slice a (rsOf s.data.toList).length c] 25)).alloc (.cells #[.int .i64 0] 3)).alloc (.cells #[.string s] 9)) := (((h8.below (Nat.le_refl _) (fun _ _ h => h)).alloc h8.size _).alloc (by simp; omega) _).alloc (by simp; omega) _
  have hR8 : Touch (fun _ => False) w8 (((w8.alloc (.cells #[.slice a (rsOf s.data.toList).length c] 25)).alloc (.cells #[.int .i64 0] 3)).alloc (.cells #[.string s] 9)) := (((Touch.refl _ w8).alloc _).alloc _).alloc _
  have hsz : (((w8.alloc (.cells #[.slice a (rsOf s.data.toList).length c] 25)).alloc (.cells #[.int .i64 0] 3)).alloc (.cells #[.string s] 9)).heap.size = w8.heap.size + 3 := by simp
  generalize hW0 : ((w8.alloc (.cells #[.slice a (rsOf s.data.toList).length c] 25)).alloc (.cells #[.int .i64 0] 3)).alloc (.cells #[.string s] 9) = W0 at *
  refine wpIn_rangeFunc_ownF rfl (by decide) (gf := 30) (lb := #[.pointer (some ⟨w8.heap.size + 1 + 1, 0, none⟩)]) rfl trivial (enters_of Tryd.func30 (by kernel_rfl) rfl)
    (iter_of _ (w8.heap.size + 1 + 1) s (by omega) _ (HT.out.keep (Touch.ofBelow hB0)) c3.cell) walksK_t walksK_b (Below.refl _ _) (fun _ => rfl)
    (fun pre W => CntI (rsOf s.data.toList) (.slice a (rsOf s.data.toList).length c) w8.heap.size w pre W ∧ Row W a c (rsOf s.data.toList)) (CntX (rsOf s.data.toList))
    (OwnFrom.and (cntI_own _ _ _ w _ (by omega)) (row_own a c _ _)) (fun c => cntX_own _ _ c)
    ⟨⟨List.nil_prefix, c2, c1, c0, hB0⟩, hrow.keep hR8⟩
    (fun x => { tmps := #[.string s, undef, .pointer (some ⟨w.heap.size, 0, none⟩), .pointer (some ⟨w8.heap.size, 0, none⟩), .bool bb, .pointer (some ⟨w8.heap.size + 1, 0, none⟩), .int .i64 (x.1 : Int), .int .i32 (x.2 : Int), .bool true, .bool false, .string s, .int .i64 (s.size : Int), .bool (decide ((4000 : Int) < (s.size : Int))), .string s, .bool bb, .string s, .bool bb, .bool false, .bool false, .string s, .int .i64 ((rsOf s.data.toList).length : Int), .string s, .int .i64 ((rsOf s.data.toList).length : Int), .bool false, .bool false, .bool false, .string s, .int .i64 (S : Int), .string s, .int .i64 (S : Int), .bool false, .bool false, .tuple #[.slice a (rsOf s.data.toList).length c, .bool bb], .string s, .tuple #[.slice a (rsOf s.data.toList).length c, .bool bb], .slice a (rsOf s.data.toList).length c, .bool bb, .string s, .func (.func 30) #[] #[.pointer (some ⟨w8.heap.size + 1 + 1, 0, none⟩)], .int .i64 (x.1 : Int), .int .i32 (x.2 : Int), undef, undef, undef, undef, undef, undef, undef, undef, undef, undef, undef, undef, undef, undef, undef, undef, undef, undef, undef, undef, undef, undef, undef], defers := [] }) ?assign ?body ?done ?stop
  case assign =>
    intro l x W K hK
    gi_wp2
    first | exact hK | simpa [enc2] using hK
  case body =>
    rintro l pre x W ⟨⟨hP, d2, d1, d0, hB⟩, hrw⟩ hlt
    have hrw0 := hrw
    obtain ⟨g, hg, hc⟩ := hrw.2.2 (fun e => by rw [e] at hlt; simp at hlt)
    subst hg
    have hck := hc pre.length hlt
    have hiff := pre_snoc (x := x) hP hlt
    have k0 := d0.cell
    have f0 := d0.frozen
    have k1 := d1.cell
    have k2 := d2.cell
    have f2 := d2.frozen
    have HBad : Hid (x ≠ (pre.length, (rsOf s.data.toList)[pre.length]) → CntX (rsOf s.data.toList) .ret (pre ++ [x]) (W.setCell ⟨w.heap.size, 0, none⟩ (.bool false))) := fun h hp => h (hiff.1 hp)
    have m2 := d2.set (.int .i64 ((pre.length + 1 : Nat) : Int))
    have m0 := d0.other (show w.heap.size ≠ w8.heap.size + 1 by omega) (.int .i64 ((pre.length + 1 : Nat) : Int))
    have m1 := d1.other (show w8.heap.size ≠ w8.heap.size + 1 by omega) (.int .i64 ((pre.length + 1 : Nat) : Int))
    have mB := hB.setCell (p := ⟨w8.heap.size + 1, 0, none⟩) (by simp only; omega) (.int .i64 ((pre.length + 1 : Nat) : Int))
    have mR : Row (W.setCell ⟨w8.heap.size + 1, 0, none⟩ (.int .i64 ((pre.length + 1 : Nat) : Int))) (some ⟨g, 0, none⟩) c (rsOf s.data.toList) := row_set hrw0 d2
    have hpl : (pre ++ [x]).length = pre.length + 1 := by simp
    have HGo : Hid (x = (pre.length, (rsOf s.data.toList)[pre.length]) → CntI (rsOf s.data.toList) (.slice (some ⟨g, 0, none⟩) (rsOf s.data.toList).length c) w8.heap.size w (pre ++ [x]) (W.setCell ⟨w8.heap.size + 1, 0, none⟩ (.int .i64 ((pre.length + 1 : Nat) : Int))) ∧ Row (W.setCell ⟨w8.heap.size + 1, 0, none⟩ (.int .i64 ((pre.length + 1 : Nat) : Int))) (some ⟨g, 0, none⟩) c (rsOf s.data.toList)) := fun h => ⟨⟨hiff.2 h, by rw [hpl]; exact m2, m1, m0, mB⟩, mR⟩
    clear hW0 hsz c0 c1 c2 c3 d0 d1 d2 hB0 hB hK0 hrow hrw hrw0 hc hiff hP m2 m0 m1 mB mR hpl hR8 h8 b8 hbb HK P1 P2 P3 P4 P5 P6 P7 HT
    generalize (rsOf s.data.toList)[pre.length] = r at *
    have hlt2 : (pre.length : Int) < ((rsOf s.data.toList).length : Int) := by omega
    obtain ⟨x1, x2⟩ := x
    simp only at *
    by_cases h1 : x1 = pre.length
    · subst h1
      by_cases h2 : x2 = r
      · subst h2
        rw [show ((pre.length + 1 : Nat) : Int) = (pre.length : Int) + 1 from by omega] at HGo
        have HS : Hid (CntI (rsOf s.data.toList) (.slice (some ⟨g, 0, none⟩) (rsOf s.data.toList).length c) w8.heap.size w (pre ++ [(pre.length, x2)]) (W.setCell ⟨w8.heap.size + 1, 0, none⟩ (.int .i64 ((pre.length : Int) + 1))) ∧ Row (W.setCell ⟨w8.heap.size + 1, 0, none⟩ (.int .i64 ((pre.length : Int) + 1))) (some ⟨g, 0, none⟩) c (rsOf s.data.toList)) := HGo.out rfl
        clear HGo HBad
        gi_wp2
        exact ⟨KeepsOthers.setCell _ _ _, walks_of (KeepsOthers.setCell _ _ _), HS.out⟩
      · have hb2 : ((r : Int) != (x2 : Int)) = true := by rw [bne_iff_ne]; omega
        have HS : Hid (CntX (rsOf s.data.toList) .ret (pre ++ [(pre.length, x2)]) (W.setCell ⟨w.heap.size, 0, none⟩ (.bool false))) := HBad.out (fun e => h2 (Prod.mk.inj e).2)
        clear HGo HBad h2
        gi_wp2
        exact ⟨KeepsOthers.setCell _ _ _, HS.out⟩
    · have hb1 : ((x1 : Int) != (pre.length : Int)) = true := by rw [bne_iff_ne]; omega
      have HS : Hid (CntX (rsOf s.data.toList) .ret (pre ++ [(x1, x2)]) (W.setCell ⟨w.heap.size, 0, none⟩ (.bool false))) := HBad.out (fun e => h1 (Prod.mk.inj e).1)
      clear HGo HBad h1
      gi_wp2
      exact ⟨KeepsOthers.setCell _ _ _, HS.out⟩
  case done =>
    rintro D ys W hD rfl ⟨⟨hP, d2, d1, d0, hB⟩, hrw⟩ hK
    rw [enumR_len] at d2
    have k0 := d0.cell
    have f0 := d0.frozen
    have k1 := d1.cell
    have k2 := d2.cell
    have HB : Hid (Below w.heap.size w W) := hB
    have HD : Hid (w.heap.size ≤ D) := by rw [Hid]; omega
    have HD2 : Hid (Boxed W w.heap.size 4 (.bool false)) := d0
    clear hW0 hsz c0 c1 c2 c3 d0 d1 d2 hB0 hB hrow hrw hP hR8 h8 b8 hbb HK P1 P2 P3 P4 P5 P6 P7 HT
    gi_wp2
    have hK' := (KeepsOthers.setCell W ⟨w.heap.size, 0, none⟩ (.bool true)).same D _ hK rfl
    refine ⟨by simp, .inl ⟨_, _, rfl, run_takeDeferred hK', ?_⟩⟩
    have hc5 := cell_kept (HD2.out.set (.bool true)).cell (grownBy_putObj' _ D (.deferred none)) (fun r e => by cases e; exact ⟨_, hK', rfl⟩)
    refine ⟨.bool true, ?_, rfl, Touch.ofBelow ((HB.out.setCell (p := ⟨w.heap.size, 0, none⟩) (Nat.le_refl _) _).trans (belowK_b (w := w) (Nat.le_refl _) _ D _ _ HD.out hK' rfl rfl))⟩
    simp [results, Tryd.f3, go_sem, hc5]
  case stop =>
    rintro D c xs W hD hpre hX hK
    exact absurd hpre hX
end Go.Proofs.YteemjbnhiiadaaaDoor
