/- The contract of utf.place at one of its two uses. -/
import Derived.Test.YteemjbnhiiadaaaDoorUtfPlace
namespace Go.Proofs.YteemjbnhiiadaaaDoor
open Go.RowKit Go.Shelf
set_option linter.unusedVariables false
set_option maxRecDepth 100000
attribute [local go_sem] Oper.semAt_some

set_option maxHeartbeats 4000000 in
theorem place_16 (s : ByteArray) (hs : s.size ≤ 1152921504606846976) (n : Int) (w : World) (hT : TabsU w) : Calls Tryd.prog 33 #[.string s, .int .i64 n, .func (.func 27) #[] #[], .func (.func 34) #[] #[]] w (PlacePost un16 one1 n s.data.toList w) := by
  have hln : (rsOf s.data.toList).length ≤ s.size := by have := rsOf_len s.data.toList; simpa using this
  refine (callsIn_wide (n := 3)).1 ?_
  refine callsIn_of_wp_marks Tryd.func33 rfl trivial ?_ rfl
  simp only [Tryd.ntmps33, List.size_toArray, List.length_cons, List.length_nil, Nat.reduceAdd, Nat.reduceSub, Array.replicate_succ, Array.replicate_zero, List.push_toArray, List.append_toArray, List.nil_append, List.cons_append]
  have HK : Hid (∀ w', Touch (fun _ => False) w w' → Calls Tryd.prog 10 #[.string s] w' fun e w'' => e = .returned (.bool (runesOf s.data.toList).isSome) ∧ Touch (fun _ => False) w' w'') := fun w' h => utf_check s (by omega) w' (hT.keep h)
  gi_wp2_with fail
  refine ⟨trivial, (callsIn_wide.2 (HK.out _ ((((Touch.refl _ w).alloc _).alloc _).alloc _))).mono ?_⟩
  rintro e w1 ⟨rfl, hT1⟩
  have b0 := boxed_keep (((Boxed.new w 3 (.int .i64 n)).alloc (.cells #[.func (.func 27) #[] #[]] 42)).alloc (.cells #[.func (.func 34) #[] #[]] 42)) hT1
  have b1 := boxed_keep ((Boxed.new (w.alloc (.cells #[.int .i64 n] 3)) 42 (.func (.func 27) #[] #[])).alloc (.cells #[.func (.func 34) #[] #[]] 42)) hT1
  have b2 := boxed_keep (Boxed.new ((w.alloc (.cells #[.int .i64 n] 3)).alloc (.cells #[.func (.func 27) #[] #[]] 42)) 42 (.func (.func 34) #[] #[])) hT1
  simp only [World.size_alloc] at b1 b2
  have hW1 : Touch (fun _ => False) w w1 := ((((Touch.refl _ w).alloc _).alloc _).alloc _).trans hT1
  clear hT1
  cases hr : runesOf s.data.toList with
  | none =>
    simp only [Option.isSome_none]
    gi_wp2
    refine ⟨.tuple #[.int .i64 0, .int .i64 31], by simp [results, Tryd.f33, go_sem], hW1, .inl ⟨hr, rfl⟩⟩
  | some rs =>
    have HR : Hid (runesOf s.data.toList = some rs) := hr
    have HE : Hid (rsOf s.data.toList = rs) := rsOf_some hr
    simp only [Option.isSome_some]
    clear hr
    gi_wp2_with fail
    refine ⟨trivial, (callsIn_wide.2 (utf_runes s _)).mono ?_⟩
    rintro e w2 ⟨rfl, rfl⟩
    gi_wp2
    rename_i K0 hK0
    have c0 := ((b0.alloc (.cells #[.int .i64 0] 3)).alloc (.cells #[.int .i64 0] 3)).alloc (.cells #[.string s] 9)
    have c1 := ((b1.alloc (.cells #[.int .i64 0] 3)).alloc (.cells #[.int .i64 0] 3)).alloc (.cells #[.string s] 9)
    have c2 := ((b2.alloc (.cells #[.int .i64 0] 3)).alloc (.cells #[.int .i64 0] 3)).alloc (.cells #[.string s] 9)
    have c3 := ((Boxed.new w1 3 (.int .i64 0)).alloc (.cells #[.int .i64 0] 3)).alloc (.cells #[.string s] 9)
    have c4 := (Boxed.new (w1.alloc (.cells #[.int .i64 0] 3)) 3 (.int .i64 0)).alloc (.cells #[.string s] 9)
    have c5 := Boxed.new ((w1.alloc (.cells #[.int .i64 0] 3)).alloc (.cells #[.int .i64 0] 3)) 9 (.string s)
    simp only [World.size_alloc] at c4 c5
    have hz0 := b0.lt
    have hz1 := b1.lt
    have hz2 := b2.lt
    have hB0 : Below w.heap.size w (((w1.alloc (.cells #[.int .i64 0] 3)).alloc (.cells #[.int .i64 0] 3)).alloc (.cells #[.string s] 9)) := (((hW1.below (Nat.le_refl _) (fun _ _ h => h)).alloc hW1.size _).alloc (by simp; omega) _).alloc (by simp; omega) _
    have hsz : (((w1.alloc (.cells #[.int .i64 0] 3)).alloc (.cells #[.int .i64 0] 3)).alloc (.cells #[.string s] 9)).heap.size = w1.heap.size + 3 := by simp
    generalize hW0 : ((w1.alloc (.cells #[.int .i64 0] 3)).alloc (.cells #[.int .i64 0] 3)).alloc (.cells #[.string s] 9) = W0 at *
    refine wpIn_rangeFunc_ownF rfl (by decide) (gf := 30) (lb := #[.pointer (some ⟨w1.heap.size + 1 + 1, 0, none⟩)]) rfl trivial (enters_of Tryd.func30 (by kernel_rfl) rfl)
      (iter_of _ (w1.heap.size + 1 + 1) s (by omega) _ (hT.keep (Touch.ofBelow hB0)) c5.cell) walksK_t walksK_b (Below.refl _ _) (fun _ => rfl)
      (fun pre W => (Under un16 n pre) ∧ (Boxed W w1.heap.size 3 (.int .i64 (sumP un16 pre : Int)) ∧ (Boxed W (w1.heap.size + 1) 3 (.int .i64 (sumP one1 pre : Int)) ∧ (Boxed W w.heap.size 3 (.int .i64 n) ∧ (Boxed W (w.heap.size + 1) 42 (.func (.func 27) #[] #[]) ∧ (Boxed W (w.heap.size + 1 + 1) 42 (.func (.func 34) #[] #[]) ∧ Below w.heap.size w W))))))
      (PlaceX un16 one1 n w1.heap.size w.heap.size w)
      (OwnFrom.and (ownFrom_pure _ _) (OwnFrom.and (Own.from (boxed_own _ _ _) _) (OwnFrom.and (Own.from (boxed_own _ _ _) _) (OwnFrom.and (Own.from (boxed_own _ _ (fun _ => .int .i64 n)) _) (OwnFrom.and (Own.from (boxed_own _ _ (fun _ => .func (.func 27) #[] #[])) _) (OwnFrom.and (Own.from (boxed_own _ _ (fun _ => .func (.func 34) #[] #[])) _) (ownFrom_below (Nat.le_refl _) (by omega))))))))
      (fun c => placeX_own _ _ _ _ _ _ _ (by omega) c)
      ⟨fun j hj => by simp at hj, c3, c4, c0, c1, c2, hB0⟩
      (fun x => { tmps := #[.string s, .int .i64 n, .func (.func 27) #[] #[], .func (.func 34) #[] #[], undef, .pointer (some ⟨w.heap.size, 0, none⟩), .pointer (some ⟨w.heap.size + 1, 0, none⟩), .pointer (some ⟨w.heap.size + 1 + 1, 0, none⟩), .int .i64 0, .int .i64 0, .pointer (some ⟨w1.heap.size, 0, none⟩), .pointer (some ⟨w1.heap.size + 1, 0, none⟩), undef, .int .i32 (x.2 : Int), .string s, .bool true, .bool false, .string s, .func (.func 30) #[] #[.pointer (some ⟨w1.heap.size + 1 + 1, 0, none⟩)], .int .i64 (x.1 : Int), .int .i32 (x.2 : Int), undef, undef, undef, undef, undef, undef, undef, undef, undef, undef, undef, undef, undef, undef, undef, undef, undef], defers := [] }) ?assign ?body ?done ?stop
    case assign =>
      intro l x W K hK
      gi_wp2
      first | exact hK | simpa [enc2] using hK
    case body =>
      rintro l pre x W ⟨hU, d3, d4, d0, d1, d2, hB⟩ hlt
      have k0 := d0.cell
      have k1 := d1.cell
      have k2 := d2.cell
      have k3 := d3.cell
      have k4 := d4.cell
      have f3 := d3.frozen
      have f4 := d4.frozen
      have HU : Hid (Under un16 n pre) := hU
      clear hU
      by_cases hn : (sumP un16 pre : Int) < n
      · have HA : Hid (∀ w, Calls Tryd.prog 27 #[.int .i32 (x.2 : Int)] w fun e w' => e = .returned (.int .i64 (un16 x.2 : Int)) ∧ w' = w) := fun w => units16_any x.2 w
        have HT : Hid (∀ w, Calls Tryd.prog 34 #[.int .i32 (x.2 : Int)] w fun e w' => e = .returned (.int .i64 (one1 x.2 : Int)) ∧ w' = w) := fun w => one_one x.2 w
        have hmx : Tryd.prog.follows .mixedOrders = true := by kernel_rfl
        have hTb := sumP_le un16 (fun r => (un16_bd r).2) pre
        have hTb2 := sumP_le one1 one1_bd pre
        have hx1 := (fun r => (un16_bd r).2) x.2
        have hx2 := one1_bd x.2
        have hs1 : sumP un16 pre + un16 x.2 ≤ 9223372036854775807 := by omega
        have hs2 : sumP one1 pre + one1 x.2 ≤ 9223372036854775807 := by omega
        obtain ⟨W1, hW1e⟩ : ∃ W1, W1 = (W.setCell ⟨w1.heap.size, 0, none⟩ (.int .i64 (IntKind.i64.wrap ((sumP un16 pre : Int) + (un16 x.2 : Int))))).drew := ⟨_, rfl⟩
        have m4 : Boxed W1 (w1.heap.size + 1) 3 (.int .i64 (sumP one1 pre : Int)) := by rw [hW1e]; exact boxed_drew (d4.other (by omega) _)
        have m2 : Boxed W1 (w.heap.size + 1 + 1) 42 (.func (.func 34) #[] #[]) := by rw [hW1e]; exact boxed_drew (d2.other (by omega) _)
        have j4 := m4.cell
        have j2 := m2.cell
        have g4 := m4.frozen
        have HW1 : Hid (W1 = (W.setCell ⟨w1.heap.size, 0, none⟩ (.int .i64 (IntKind.i64.wrap ((sumP un16 pre : Int) + (un16 x.2 : Int))))).drew) := hW1e
        have HEnd : Hid (∀ W2, W2 = (W1.setCell ⟨w1.heap.size + 1, 0, none⟩ (.int .i64 (IntKind.i64.wrap ((sumP one1 pre : Int) + (one1 x.2 : Int))))).drew →
            KeepsOthers W W2 ∧ KeepsWalks W W2 ∧ (Under un16 n (pre ++ [x])) ∧ (Boxed W2 w1.heap.size 3 (.int .i64 (sumP un16 (pre ++ [x]) : Int)) ∧ (Boxed W2 (w1.heap.size + 1) 3 (.int .i64 (sumP one1 (pre ++ [x]) : Int)) ∧ (Boxed W2 w.heap.size 3 (.int .i64 n) ∧ (Boxed W2 (w.heap.size + 1) 42 (.func (.func 27) #[] #[]) ∧ (Boxed W2 (w.heap.size + 1 + 1) 42 (.func (.func 34) #[] #[]) ∧ Below w.heap.size w W2)))))) := by
          intro W2 e
          rw [hW1e] at e
          have hk1 : KeepsOthers W W2 := by rw [e]; exact (((KeepsOthers.setCell _ _ _).trans (KeepsOthers.drew _)).trans (KeepsOthers.setCell _ _ _)).trans (KeepsOthers.drew _)
          rw [IntWalk.i64_in _ (by omega), IntWalk.i64_in _ (by omega), show ((sumP un16 pre : Int) + (un16 x.2 : Int)) = ((sumP un16 pre + un16 x.2 : Nat) : Int) from by omega, show ((sumP one1 pre : Int) + (one1 x.2 : Int)) = ((sumP one1 pre + one1 x.2 : Nat) : Int) from by omega] at e
          refine ⟨hk1, walks_of hk1, under_snoc HU.out hn, ?_, ?_, ?_, ?_, ?_, ?_⟩
          · rw [sumP_snoc, e]; exact boxed_drew ((boxed_drew (d3.set _)).other (by omega) _)
          · rw [sumP_snoc, e]; exact boxed_drew (Boxed.set _ (boxed_drew (d4.other (by omega) _)))
          · rw [e]; exact boxed_drew ((boxed_drew (d0.other (by omega) _)).other (by omega) _)
          · rw [e]; exact boxed_drew ((boxed_drew (d1.other (by omega) _)).other (by omega) _)
          · rw [e]; exact boxed_drew ((boxed_drew (d2.other (by omega) _)).other (by omega) _)
          · rw [e]; exact ((hB.setCell (p := ⟨w1.heap.size, 0, none⟩) (by simp only; omega) _).drew.setCell (p := ⟨w1.heap.size + 1, 0, none⟩) (by simp only; omega) _).drew
        clear hW0 hsz b0 b1 b2 c0 c1 c2 c3 c4 c5 d0 d1 d2 d3 d4 hTb hTb2 hx1 hx2 hB0 hB HU HK HR HE hlt hW1 hln hK0 hT hs1 hs2 hW1e m4 m2
        generalize sumP un16 pre = T1 at *
        generalize sumP one1 pre = T2 at *
        generalize un16 x.2 = U1 at *
        generalize one1 x.2 = U2 at *
        gi_wp2
        rename_i K1 hK1
        have key : K1 { tmps := #[.string s, .int .i64 n, .func (.func 27) #[] #[], .func (.func 34) #[] #[], undef, .pointer (some ⟨w.heap.size, 0, none⟩), .pointer (some ⟨w.heap.size + 1, 0, none⟩), .pointer (some ⟨w.heap.size + 1 + 1, 0, none⟩), .int .i64 0, .int .i64 0, .pointer (some ⟨w1.heap.size, 0, none⟩), .pointer (some ⟨w1.heap.size + 1, 0, none⟩), undef, .int .i32 (x.2 : Int), .string s, .bool true, .bool false, .string s, .func (.func 30) #[] #[.pointer (some ⟨w1.heap.size + 1 + 1, 0, none⟩)], .int .i64 (x.1 : Int), .int .i32 (x.2 : Int), .int .i64 (T1 : Int), .int .i64 n, .bool (decide (n ≤ (T1 : Int))), .int .i64 (T1 : Int), .func (.func 27) #[] #[], .int .i32 (x.2 : Int), .int .i64 (U1 : Int), .int .i64 (IntKind.i64.wrap ((T1 : Int) + (U1 : Int))), undef, undef, undef, undef, undef, undef, undef, undef, undef], defers := [] } W1 := by
          refine hK1 _ _ ?_
          gi_region_with_o (refine ⟨trivial, ?_⟩; gi_at_call 34; refine (CallsIn.inRound l (callsIn_wide.2 (HT.out _))).mono ?_; rintro e w' ⟨rfl, rfl⟩)
          all_goals exact HEnd.out _ rfl
        gi_region_with_o (refine ⟨trivial, ?_⟩; gi_at_call 27; refine (CallsIn.inRound l (callsIn_wide.2 (HA.out _))).mono ?_; rintro e w' ⟨rfl, rfl⟩)
        all_goals (rw [← HW1.out]; exact key)
      · have HEnd : Hid (PlaceX un16 one1 n w1.heap.size w.heap.size w (.exit 0) (pre ++ [x]) W) := ⟨⟨rfl, pre, x, rfl, HU.out, by omega, d3, d4⟩, d0, hB⟩
        clear hW0 hsz b0 b1 b2 c0 c1 c2 c3 c4 c5 d0 d1 d2 d3 d4 hB0 hB hK0
        gi_wp2
        exact ⟨KeepsOthers.refl _, HEnd.out⟩
    case done =>
      rintro D ys W hD rfl ⟨hU, d3, d4, d0, d1, d2, hB⟩ hK
      rw [sumP_enum] at d3 d4
      rw [HE.out] at hU d3 d4
      have hst := stop_end hU
      have k0 := d0.cell
      have k3 := d3.cell
      have k4 := d4.cell
      have HB : Hid (Touch (fun _ => False) w (W.putObj D (.deferred none))) := Touch.ofBelow (hB.trans (belowK_b (w := w) (Nat.le_refl _) W D _ _ (by omega) hK rfl rfl))
      have HR2 := HR.out
      have ht : rs.take rs.length = rs := List.take_length
      have HP : Hid (∀ e, ((((ssum un16 rs : Int) = n) ∧ e = .returned (.tuple #[.int .i64 (ssum one1 rs : Int), .int .i64 0])) ∨ (((ssum un16 rs : Int) ≠ n) ∧ e = .returned (.tuple #[.int .i64 0, .int .i64 30]))) → PlacePost un16 one1 n s.data.toList w e (W.putObj D (.deferred none))) := fun e h => ⟨HB.out, .inr ⟨rs, rs.length, HR.out, hst, by rw [ht]; exact h⟩⟩
      clear hW0 hsz b0 b1 b2 c0 c1 c2 c3 c4 c5 d0 d1 d2 d3 d4 hB0 hB hU hst HR2 ht
      have q3 : ∀ f, (List.map f rs).sum = ssum f rs := fun _ => rfl
      rw [q3] at k3 k4
      clear q3
      by_cases hn : (ssum un16 rs : Int) = n
      · have hb : ((ssum un16 rs : Int) != n) = false := by simp [hn]
        have HN : Hid ((ssum un16 rs : Int) = n) := hn
        clear hn
        gi_wp2
        refine ⟨by simp, .inl ⟨_, _, rfl, run_takeDeferred hK, ?_⟩⟩
        exact ⟨.tuple #[.int .i64 (ssum one1 rs : Int), .int .i64 0], by simp [results, Tryd.f33, go_sem], HP.out _ (.inl ⟨HN.out, rfl⟩)⟩
      · have hb : ((ssum un16 rs : Int) != n) = true := by simp [hn]
        have HN : Hid ((ssum un16 rs : Int) ≠ n) := hn
        clear hn
        gi_wp2
        refine ⟨by simp, .inl ⟨_, _, rfl, run_takeDeferred hK, ?_⟩⟩
        exact ⟨.tuple #[.int .i64 0, .int .i64 30], by simp [results, Tryd.f33, go_sem], HP.out _ (.inr ⟨HN.out, rfl⟩)⟩
    case stop =>
      rintro D c xs W hD hpre ⟨⟨rfl, pre, x, rfl, hU, hle, d3, d4⟩, d0, hB⟩ hK
      rw [HE.out] at hpre
      obtain ⟨hst, ht⟩ := stop_mid hpre hU hle
      generalize hk : pre.length = k at *
      have e3 : sumP un16 pre = ssum un16 (rs.take k) := by rw [ht, sumP_take]
      have e4 : sumP one1 pre = ssum one1 (rs.take k) := by rw [ht, sumP_take]
      rw [e3] at d3
      rw [e4] at d4
      have k0 := d0.cell
      have k3 := d3.cell
      have k4 := d4.cell
      have HB : Hid (Touch (fun _ => False) w (W.putObj D (.deferred none))) := Touch.ofBelow (hB.trans (belowK_b (w := w) (Nat.le_refl _) W D _ _ (by omega) hK rfl rfl))
      have HP : Hid (∀ e, ((((ssum un16 (rs.take k) : Int) = n) ∧ e = .returned (.tuple #[.int .i64 (ssum one1 (rs.take k) : Int), .int .i64 0])) ∨ (((ssum un16 (rs.take k) : Int) ≠ n) ∧ e = .returned (.tuple #[.int .i64 0, .int .i64 30]))) → PlacePost un16 one1 n s.data.toList w e (W.putObj D (.deferred none))) := fun e h => ⟨HB.out, .inr ⟨rs, k, HR.out, hst, h⟩⟩
      clear hW0 hsz b0 b1 b2 c0 c1 c2 c3 c4 c5 d0 d3 d4 hB0 hB hU hst ht hk e3 e4 hle hpre
      by_cases hn : (ssum un16 (rs.take k) : Int) = n
      · have hb : ((ssum un16 (rs.take k) : Int) != n) = false := by simp [hn]
        have HN : Hid ((ssum un16 (rs.take k) : Int) = n) := hn
        clear hn
        gi_wp2
        refine ⟨by simp, .inl ⟨_, _, rfl, run_takeDeferred hK, ?_⟩⟩
        exact ⟨.tuple #[.int .i64 (ssum one1 (rs.take k) : Int), .int .i64 0], by simp [results, Tryd.f33, go_sem], HP.out _ (.inl ⟨HN.out, rfl⟩)⟩
      · have hb : ((ssum un16 (rs.take k) : Int) != n) = true := by simp [hn]
        have HN : Hid ((ssum un16 (rs.take k) : Int) ≠ n) := hn
        clear hn
        gi_wp2
        refine ⟨by simp, .inl ⟨_, _, rfl, run_takeDeferred hK, ?_⟩⟩
        exact ⟨.tuple #[.int .i64 0, .int .i64 30], by simp [results, Tryd.f33, go_sem], HP.out _ (.inr ⟨HN.out, rfl⟩)⟩
end Go.Proofs.YteemjbnhiiadaaaDoor
