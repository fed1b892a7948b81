/- The contract of quirelaw3.each: runes come as they stand, and stop where they are left. -/
import Derived.Test.YteemjbnhiiadaaaDoorUtfPlace
import Derived.Test.YteemjbnhiiadaaaDoorRefLen
namespace Go.Proofs.YteemjbnhiiadaaaDoor
open Go.RowKit Go.Shelf
set_option linter.unusedVariables false
set_option maxRecDepth 100000
attribute [local go_sem] Oper.semAt_some

theorem pre_snoc {rs : List Nat} {pre : List (Nat × Nat)} {x : Nat × Nat} (h : pre <+: enumR 0 rs) (hl : pre.length < rs.length) : pre ++ [x] <+: enumR 0 rs ↔ x = (pre.length, rs[pre.length]) := by
  have ht : pre = enumR 0 (rs.take pre.length) := by rw [← enumR_take]; exact List.prefix_iff_eq_take.1 h
  have hs : enumR 0 (rs.take (pre.length + 1)) = pre ++ [(pre.length, rs[pre.length])] := by
    rw [List.take_succ_eq_append_getElem hl, enumR_snoc, ← ht, List.length_take, Nat.min_eq_left (by omega)]
  constructor
  · intro hp
    have h2 := List.prefix_iff_eq_take.1 hp
    rw [enumR_take, List.length_append, List.length_singleton, hs] at h2
    have := List.append_cancel_left h2
    rw [List.cons.injEq] at this
    exact this.1
  · rintro rfl
    rw [← hs, ← enumR_take]
    exact List.take_prefix _ _

def EachI (rs : List Nat) (at' : Nat) (v : Value) (w : World) (pre : List (Nat × Nat)) (W : World) : Prop :=
  (pre <+: enumR 0 rs ∧ ∀ j, 1 ≤ j → j ≤ pre.length → j ≠ at') ∧ (Boxed W (w.heap.size + 3) 3 (.int .i64 (pre.length : Int)) ∧ (Boxed W w.heap.size 3 (.int .i64 (at' : Int)) ∧ (Boxed W (w.heap.size + 1) 25 v ∧ (Boxed W (w.heap.size + 2) 4 (.bool false) ∧ Below w.heap.size w W))))
theorem eachI_own (rs : List Nat) (at' : Nat) (v : Value) (w : World) (N : Nat) (hN : w.heap.size ≤ N) : OwnFrom N (EachI rs at' v w) :=
  OwnFrom.and (ownFrom_pure _ _) (OwnFrom.and (Own.from (boxed_own _ _ _) _) (OwnFrom.and (Own.from (boxed_own _ _ (fun _ => .int .i64 (at' : Int))) _) (OwnFrom.and (Own.from (boxed_own _ _ (fun _ => v)) _) (OwnFrom.and (Own.from (boxed_own _ _ (fun _ => .bool false)) _) (ownFrom_below (Nat.le_refl _) hN)))))
def EachX (rs : List Nat) (at' : Nat) (w : World) (c : Code) (xs : List (Nat × Nat)) (W : World) : Prop :=
  ¬ (xs <+: enumR 0 rs) ∨ ((c = .exit 0 ∧ xs.length = at') ∧ (Boxed W (w.heap.size + 3) 3 (.int .i64 (xs.length : Int)) ∧ (Boxed W w.heap.size 3 (.int .i64 (at' : Int)) ∧ (Boxed W (w.heap.size + 2) 4 (.bool false) ∧ Below w.heap.size w W))))
theorem eachX_own (rs : List Nat) (at' : Nat) (w : World) (N : Nat) (hN : w.heap.size ≤ N) (c : Code) : OwnFrom N (EachX rs at' w c) := by
  rintro xs A B row (h | h) hg hr
  · exact .inl h
  · exact .inr (OwnFrom.and (ownFrom_pure N (fun xs : List (Nat × Nat) => c = .exit 0 ∧ xs.length = at')) (OwnFrom.and (Own.from (boxed_own _ _ (fun xs : List (Nat × Nat) => .int .i64 (xs.length : Int))) _) (OwnFrom.and (Own.from (boxed_own _ _ (fun _ => .int .i64 (at' : Int))) _) (OwnFrom.and (Own.from (boxed_own _ _ (fun _ => .bool false)) _) (ownFrom_below (Nat.le_refl _) hN)))) xs A B row h hg hr)

set_option maxHeartbeats 4000000 in
theorem each_any (s : ByteArray) (hs : s.size ≤ 1000000) (at' : Nat) (hat : at' ≤ (rsOf s.data.toList).length) (a : Option Addr) (c : Nat) (w : World) (hT : TabsU w) (hrow : Row w a c (rsOf s.data.toList)) : Calls Tryd.prog 25 #[.string s, .int .i64 (at' : Int), .slice a (rsOf s.data.toList).length c] w fun e w' => e = .returned (.bool true) ∧ Touch (fun _ => False) w w' := by
  have hln : (rsOf s.data.toList).length ≤ s.size := by have := rsOf_len s.data.toList; simpa using this
  have hcap := hrow.1
  have hmax := hrow.2.1
  refine (callsIn_wide (n := 3)).1 ?_
  refine callsIn_of_wp_marks Tryd.func25 rfl trivial ?_ rfl
  simp only [Tryd.ntmps25, List.size_toArray, List.length_cons, List.length_nil, Nat.reduceAdd, Nat.reduceSub, Array.replicate_succ, Array.replicate_zero, List.push_toArray, List.append_toArray, List.nil_append, List.cons_append]
  gi_wp2_with fail
  refine ⟨trivial, (callsIn_wide.2 (utf_runes s _)).mono ?_⟩
  rintro e w1 ⟨rfl, rfl⟩
  gi_wp2
  rename_i K0 hK0
  have c0 := ((((Boxed.new w 3 (.int .i64 (at' : Int))).alloc (.cells #[.slice a (rsOf s.data.toList).length c] 25)).alloc (.cells #[.bool false] 4)).alloc (.cells #[.int .i64 0] 3)).alloc (.cells #[.string s] 9)
  have c1 := (((Boxed.new (w.alloc (.cells #[.int .i64 (at' : Int)] 3)) 25 (.slice a (rsOf s.data.toList).length c)).alloc (.cells #[.bool false] 4)).alloc (.cells #[.int .i64 0] 3)).alloc (.cells #[.string s] 9)
  have c2 := ((Boxed.new ((w.alloc (.cells #[.int .i64 (at' : Int)] 3)).alloc (.cells #[.slice a (rsOf s.data.toList).length c] 25)) 4 (.bool false)).alloc (.cells #[.int .i64 0] 3)).alloc (.cells #[.string s] 9)
  have c3 := (Boxed.new (((w.alloc (.cells #[.int .i64 (at' : Int)] 3)).alloc (.cells #[.slice a (rsOf s.data.toList).length c] 25)).alloc (.cells #[.bool false] 4)) 3 (.int .i64 0)).alloc (.cells #[.string s] 9)
  have c4 := Boxed.new ((((w.alloc (.cells #[.int .i64 (at' : Int)] 3)).alloc (.cells #[.slice a (rsOf s.data.toList).length c] 25)).alloc (.cells #[.bool false] 4)).alloc (.cells #[.int .i64 0] 3)) 9 (.string s)
  simp only [World.size_alloc] at c1 c2 c3 c4
  have hB0 : Below w.heap.size w (((((w.alloc (.cells #[.int .i64 (at' : Int)] 3)).alloc (.cells #[.slice a (rsOf s.data.toList).length c] 25)).alloc (.cells #[.bool false] 4)).alloc (.cells #[.int .i64 0] 3)).alloc (.cells #[.string s] 9)) := (((((Below.refl _ w).alloc (Nat.le_refl _) _).alloc (by simp) _).alloc (by simp; omega) _).alloc (by simp; omega) _).alloc (by simp; omega) _
  have hsz : (((((w.alloc (.cells #[.int .i64 (at' : Int)] 3)).alloc (.cells #[.slice a (rsOf s.data.toList).length c] 25)).alloc (.cells #[.bool false] 4)).alloc (.cells #[.int .i64 0] 3)).alloc (.cells #[.string s] 9)).heap.size = w.heap.size + 5 := by simp
  generalize hW0 : (((((w.alloc (.cells #[.int .i64 (at' : Int)] 3)).alloc (.cells #[.slice a (rsOf s.data.toList).length c] 25)).alloc (.cells #[.bool false] 4)).alloc (.cells #[.int .i64 0] 3)).alloc (.cells #[.string s] 9)) = W0 at *
  refine wpIn_rangeFunc_ownF rfl (by decide) (gf := 30) (lb := #[.pointer (some ⟨w.heap.size + 1 + 1 + 1 + 1, 0, none⟩)]) rfl trivial (enters_of Tryd.func30 (by kernel_rfl) rfl)
    (iter_of _ (w.heap.size + 1 + 1 + 1 + 1) s (by omega) _ (hT.keep (Touch.ofBelow hB0)) c4.cell) walksK_t walksK_b (Below.refl _ _) (fun _ => rfl)
    (EachI (rsOf s.data.toList) at' (.slice a (rsOf s.data.toList).length c) w) (EachX (rsOf s.data.toList) at' w) (eachI_own _ _ _ w _ (by omega)) (fun c => eachX_own _ _ w _ (by omega) c)
    ⟨⟨List.nil_prefix, fun j h1 h2 => by simp at h2; omega⟩, c3, c0, c1, c2, hB0⟩
    (fun x => { tmps := #[.string s, .int .i64 (at' : Int), .slice a (rsOf s.data.toList).length c, undef, .pointer (some ⟨w.heap.size, 0, none⟩), .pointer (some ⟨w.heap.size + 1, 0, none⟩), .pointer (some ⟨w.heap.size + 1 + 1, 0, none⟩), .pointer (some ⟨w.heap.size + 1 + 1 + 1, 0, none⟩), .int .i64 (x.1 : Int), .int .i32 (x.2 : Int), .string s, .func (.func 30) #[] #[.pointer (some ⟨w.heap.size + 1 + 1 + 1 + 1, 0, none⟩)], .int .i64 (x.1 : Int), .int .i32 (x.2 : Int), undef, undef, undef, undef, undef, undef, undef, undef, undef, undef, undef, undef, undef, undef, undef, undef, undef, undef, undef, undef, undef, undef, undef, undef, undef, undef, undef, undef, undef], defers := [] }) ?assign ?body ?done ?stop
  case assign =>
    intro l x W K hK
    gi_wp2
    first | exact hK | simpa [enc2] using hK
  case body =>
    rintro l pre x W ⟨⟨hP, hno⟩, d3, d0, d1, d2, hB⟩ hlt
    have hrw := hrow.keep (Touch.ofBelow hB)
    obtain ⟨g, hg, hc⟩ := hrw.2.2 (fun e => by rw [e] at hlt; simp at hlt)
    subst hg
    have hck := hc pre.length hlt
    have hiff := pre_snoc (x := x) hP hlt
    have k0 := d0.cell
    have k1 := d1.cell
    have k2 : W.cell? ⟨w.heap.size + 1 + 1, 0, none⟩ = some (.bool false) := d2.cell
    have f2 : W.frozen? ⟨w.heap.size + 1 + 1, 0, none⟩ = false := d2.frozen
    have k3 : W.cell? ⟨w.heap.size + 1 + 1 + 1, 0, none⟩ = some (.int .i64 (pre.length : Int)) := d3.cell
    have f3 : W.frozen? ⟨w.heap.size + 1 + 1 + 1, 0, none⟩ = false := d3.frozen
    have HBad : Hid (x ≠ (pre.length, (rsOf s.data.toList)[pre.length]) → EachX (rsOf s.data.toList) at' w .ret (pre ++ [x]) (W.setCell ⟨w.heap.size + 1 + 1, 0, none⟩ (.bool false))) := fun h => .inl fun hp => h (hiff.1 hp)
    have m3 : Boxed (W.setCell ⟨w.heap.size + 1 + 1 + 1, 0, none⟩ (.int .i64 ((pre.length + 1 : Nat) : Int))) (w.heap.size + 3) 3 (.int .i64 ((pre.length + 1 : Nat) : Int)) := d3.set _
    have m0 := d0.other (show w.heap.size ≠ w.heap.size + 1 + 1 + 1 by omega) (.int .i64 ((pre.length + 1 : Nat) : Int))
    have m1 := d1.other (show w.heap.size + 1 ≠ w.heap.size + 1 + 1 + 1 by omega) (.int .i64 ((pre.length + 1 : Nat) : Int))
    have m2 := d2.other (show w.heap.size + 2 ≠ w.heap.size + 1 + 1 + 1 by omega) (.int .i64 ((pre.length + 1 : Nat) : Int))
    have mB := hB.setCell (p := ⟨w.heap.size + 1 + 1 + 1, 0, none⟩) (by simp only; omega) (.int .i64 ((pre.length + 1 : Nat) : Int))
    have hpl : (pre ++ [x]).length = pre.length + 1 := by simp
    have HGo : Hid (x = (pre.length, (rsOf s.data.toList)[pre.length]) → pre.length + 1 ≠ at' → EachI (rsOf s.data.toList) at' (.slice (some ⟨g, 0, none⟩) (rsOf s.data.toList).length c) w (pre ++ [x]) (W.setCell ⟨w.heap.size + 1 + 1 + 1, 0, none⟩ (.int .i64 ((pre.length + 1 : Nat) : Int)))) := fun h hn =>
      ⟨⟨hiff.2 h, fun j h1 h2 => by rw [hpl] at h2; by_cases e : j ≤ pre.length; exact hno j h1 e; rw [show j = pre.length + 1 from by omega]; exact hn⟩, by rw [hpl]; exact m3, m0, m1, m2, mB⟩
    have HStop : Hid (pre.length + 1 = at' → EachX (rsOf s.data.toList) at' w (.exit 0) (pre ++ [x]) (W.setCell ⟨w.heap.size + 1 + 1 + 1, 0, none⟩ (.int .i64 ((pre.length + 1 : Nat) : Int)))) := fun h => .inr ⟨⟨rfl, by rw [hpl]; exact h⟩, by rw [hpl]; exact m3, m0, m2, mB⟩
    clear hW0 hsz c0 c1 c2 c3 c4 d0 d1 d2 d3 hB0 hB hK0 hT hrow hrw hc hiff hno hP m3 m0 m1 m2 mB hpl
    generalize (rsOf s.data.toList)[pre.length] = r at *
    have hlt2 : (pre.length : Int) < ((rsOf s.data.toList).length : Int) := by omega
    obtain ⟨x1, x2⟩ := x
    simp only at *
    by_cases h1 : x1 = pre.length
    · subst h1
      by_cases h2 : x2 = r
      · subst h2
        rw [show ((pre.length + 1 : Nat) : Int) = (pre.length : Int) + 1 from by omega] at HGo HStop
        by_cases h3 : pre.length + 1 = at'
        · have hb3 : ((pre.length : Int) + 1 == (at' : Int)) = true := by rw [beq_iff_eq]; omega
          have HS : Hid (EachX (rsOf s.data.toList) at' w (.exit 0) (pre ++ [(pre.length, x2)]) (W.setCell ⟨w.heap.size + 1 + 1 + 1, 0, none⟩ (.int .i64 ((pre.length : Int) + 1)))) := HStop.out h3
          clear HStop HGo HBad h3
          gi_wp2
          exact ⟨KeepsOthers.setCell _ _ _, HS.out⟩
        · have hb3 : ((pre.length : Int) + 1 == (at' : Int)) = false := by rw [beq_eq_false_iff_ne]; omega
          have HS : Hid (EachI (rsOf s.data.toList) at' (.slice (some ⟨g, 0, none⟩) (rsOf s.data.toList).length c) w (pre ++ [(pre.length, x2)]) (W.setCell ⟨w.heap.size + 1 + 1 + 1, 0, none⟩ (.int .i64 ((pre.length : Int) + 1)))) := HGo.out rfl h3
          clear HStop HGo HBad h3
          gi_wp2
          exact ⟨KeepsOthers.setCell _ _ _, walks_of (KeepsOthers.setCell _ _ _), HS.out⟩
      · have hb2 : ((x2 : Int) != (r : Int)) = true := by rw [bne_iff_ne]; omega
        have HS : Hid (EachX (rsOf s.data.toList) at' w .ret (pre ++ [(pre.length, x2)]) (W.setCell ⟨w.heap.size + 1 + 1, 0, none⟩ (.bool false))) := HBad.out (fun e => h2 (Prod.mk.inj e).2)
        clear HStop HGo HBad h2
        gi_wp2
        exact ⟨KeepsOthers.setCell _ _ _, HS.out⟩
    · have hb1 : ((x1 : Int) != (pre.length : Int)) = true := by rw [bne_iff_ne]; omega
      have HS : Hid (EachX (rsOf s.data.toList) at' w .ret (pre ++ [(x1, x2)]) (W.setCell ⟨w.heap.size + 1 + 1, 0, none⟩ (.bool false))) := HBad.out (fun e => h1 (Prod.mk.inj e).1)
      clear HStop HGo HBad h1
      gi_wp2
      exact ⟨KeepsOthers.setCell _ _ _, HS.out⟩
  case done =>
    rintro D ys W hD rfl ⟨⟨hP, hno⟩, d3, d0, d1, d2, hB⟩ hK
    rw [enumR_len] at d3 hno
    have ha0 : at' = 0 := by
      by_cases e : at' = 0
      · exact e
      · exact absurd rfl (hno at' (by omega) hat)
    subst ha0
    have k0 := d0.cell
    have k2 : W.cell? ⟨w.heap.size + 1 + 1, 0, none⟩ = some (.bool false) := d2.cell
    have f2 : W.frozen? ⟨w.heap.size + 1 + 1, 0, none⟩ = false := d2.frozen
    have HB : Hid (Below w.heap.size w W) := hB
    have HD : Hid (w.heap.size ≤ D) := by rw [Hid]; omega
    have HD2 : Hid (Boxed W (w.heap.size + 2) 4 (.bool false)) := d2
    clear hW0 hsz c0 c1 c2 c3 c4 d0 d1 d2 d3 hB0 hB hT hrow hno hP
    gi_wp2
    have hK' := (KeepsOthers.setCell W ⟨w.heap.size + 1 + 1, 0, none⟩ (.bool true)).same D _ hK rfl
    refine ⟨by simp, .inl ⟨_, _, rfl, run_takeDeferred hK', ?_⟩⟩
    have hc5 := cell_kept (HD2.out.set (.bool true)).cell (grownBy_putObj' _ D (.deferred none)) (fun r e => by cases e; exact ⟨_, hK', rfl⟩)
    refine ⟨.bool true, ?_, rfl, Touch.ofBelow ((HB.out.setCell (p := ⟨w.heap.size + 2, 0, none⟩) (by simp only; omega) _).trans (belowK_b (w := w) (Nat.le_refl _) _ D _ _ HD.out hK' rfl rfl))⟩
    simp [results, Tryd.f25, go_sem, hc5]
  case stop =>
    rintro D c xs W hD hpre hX hK
    rcases hX with hX | ⟨⟨rfl, hl⟩, d3, d0, d2, hB⟩
    · exact absurd hpre hX
    have k0 := d0.cell
    rw [hl] at d3
    have k3 : W.cell? ⟨w.heap.size + 1 + 1 + 1, 0, none⟩ = some (.int .i64 (at' : Int)) := d3.cell
    have k2 : W.cell? ⟨w.heap.size + 1 + 1, 0, none⟩ = some (.bool false) := d2.cell
    have f2 : W.frozen? ⟨w.heap.size + 1 + 1, 0, none⟩ = false := d2.frozen
    have HB : Hid (Below w.heap.size w W) := hB
    have HD : Hid (w.heap.size ≤ D) := by rw [Hid]; omega
    have HD2 : Hid (Boxed W (w.heap.size + 2) 4 (.bool false)) := d2
    clear hW0 hsz c0 c1 c2 c3 c4 d0 d2 d3 hB0 hB hT hrow hl hpre
    by_cases ha0 : at' = 0
    · subst ha0
      gi_wp2
      have hK' := (KeepsOthers.setCell W ⟨w.heap.size + 1 + 1, 0, none⟩ (.bool true)).same D _ hK rfl
      refine ⟨by simp, .inl ⟨_, _, rfl, run_takeDeferred hK', ?_⟩⟩
      have hc5 := cell_kept (HD2.out.set (.bool true)).cell (grownBy_putObj' _ D (.deferred none)) (fun r e => by cases e; exact ⟨_, hK', rfl⟩)
      refine ⟨.bool true, ?_, rfl, Touch.ofBelow ((HB.out.setCell (p := ⟨w.heap.size + 2, 0, none⟩) (by simp only; omega) _).trans (belowK_b (w := w) (Nat.le_refl _) _ D _ _ HD.out hK' rfl rfl))⟩
      simp [results, Tryd.f25, go_sem, hc5]
    · have hb0 : ((at' : Int) == 0) = false := by rw [beq_eq_false_iff_ne]; omega
      clear ha0
      gi_wp2
      have hK' := (KeepsOthers.setCell W ⟨w.heap.size + 1 + 1, 0, none⟩ (.bool true)).same D _ hK rfl
      refine ⟨by simp, .inl ⟨_, _, rfl, run_takeDeferred hK', ?_⟩⟩
      have hc5 := cell_kept (HD2.out.set (.bool true)).cell (grownBy_putObj' _ D (.deferred none)) (fun r e => by cases e; exact ⟨_, hK', rfl⟩)
      refine ⟨.bool true, ?_, rfl, Touch.ofBelow ((HB.out.setCell (p := ⟨w.heap.size + 2, 0, none⟩) (by simp only; omega) _).trans (belowK_b (w := w) (Nat.le_refl _) _ D _ _ HD.out hK' rfl rfl))⟩
      simp [results, Tryd.f25, go_sem, hc5]
end Go.Proofs.YteemjbnhiiadaaaDoor
