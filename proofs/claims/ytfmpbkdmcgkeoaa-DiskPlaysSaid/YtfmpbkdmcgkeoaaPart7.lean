/- The document's disk in its state: Room, Cut, New, Copy, Read. -/
import Derived.Test.YtfmpbkdmcgkeoaaRefU
namespace Go.Proofs.Ytfmpbkdmcgkeoaa
open Go.RowKit Go.Maps
set_option linter.unusedVariables false

section
variable {w : World} {r : Nat} {G : Nat → Prop} {s : St}
theorem RLive.room (h : RLive w r G s) (x : Int) (hx : -9223372036854775808 ≤ x ∧ x ≤ 9223372036854775807) : Calls Try.prog 24 #[rp r, .int .i64 x] w fun e w' => e = .returned (.tuple #[]) ∧ RPost r G (mRoom s x) w w' := by
  obtain ⟨v, l, hC, hfs, hG, hGl⟩ := h
  refine (rroom_any hC x hx).mono ?_
  rintro e w' ⟨he, h1, t⟩
  exact ⟨he, rpost_of (s := mRoom s x) hG h1 hfs t (fun _ e => .inl e) (fun f hf hb _ => ⟨f, hf, hb, rfl⟩)⟩
set_option maxHeartbeats 400000 in
theorem RLive.cut (h : RLive w r G s) (x : Int) (hx : -9223372036854775808 ≤ x ∧ x ≤ 9223372036854775807) : Calls Try.prog 26 #[rp r, .int .i64 x] w fun e w' => e = .returned (.tuple #[]) ∧ RPost r G (mCut s x) w w' := by
  obtain ⟨v, l, hC, hfs, hG, hGl⟩ := h
  have HD : Hid (Calls Try.prog 38 #[rp r] w fun e w' => e = .returned (.bool (decide (s.power = 0))) ∧ w' = w) := rDead_any hC
  have c2 := hC.c2
  have f2 := hC.free 2
  by_cases hp : s.power = 0
  · rw [decide_eq_true hp] at HD
    have HZ : Hid (RPost r G (mCut s x) w w) := by
      have e : mCut s x = s := by unfold mCut cutTo; rw [if_pos hp, ← hp]
      rw [e]
      exact rpost_of hG hC hfs (Touch.refl _ _) (fun _ e => .inl e) (fun f hf hb _ => ⟨f, hf, hb, rfl⟩)
    clear hC hfs hG hGl hp c2 f2
    go_enter Try.func26, Try.ntmps26
    go_wp2_with fail
    refine HD.out.mono ?_
    rintro e w1 ⟨rfl, hw⟩
    rw [hw]; clear hw
    go_wp2_with fail
    go_end0
    exact ⟨rfl, HZ.out⟩
  · rw [decide_eq_false hp] at HD
    have hm : max x (-1) = leftOf x := by unfold leftOf; split <;> omega
    have HZ : Hid (RPost r G (mCut s x) w (w.setCell ⟨r, 2, none⟩ (.int .i64 (leftOf x)))) := by
      have t : Touch (fun k => k = r) w (w.setCell ⟨r, 2, none⟩ (.int .i64 (leftOf x))) := (Touch.refl _ w).setCell _ _ fun _ => rfl
      have h2 : RCore (w.setCell ⟨r, 2, none⟩ (.int .i64 (leftOf x))) r v l s.room x := hC.turn t (by rw [heap_setCell_same _ _ _ _ hC.cells]; rfl) hC.room0 hC.room1 hx.1 hx.2
      have e : mCut s x = ⟨s.fs, s.room, x⟩ := by unfold mCut cutTo; rw [if_neg hp]
      rw [e]
      exact rpost_of (s := ⟨s.fs, s.room, x⟩) hG h2 hfs t (fun _ e => .inl e) (fun f hf hb _ => ⟨f, hf, hb, rfl⟩)
    generalize leftOf x = y at *
    clear hC hfs hG hGl hp
    go_enter Try.func26, Try.ntmps26
    go_wp2_with fail
    refine HD.out.mono ?_
    rintro e w1 ⟨rfl, hw⟩
    rw [hw]; clear hw
    go_wp2_with fail
    go_end0
    exact ⟨rfl, HZ.out⟩
/-- Made since w. -/
def RNew (w w' : World) (r : Nat) (G : Nat → Prop) (s : St) : Prop := RLive w' r G s ∧ Touch (fun _ => False) w w' ∧ ∀ k, G k → w.heap.size ≤ k
set_option maxHeartbeats 400000 in
theorem rNew_any (x : Int) (hx : -9223372036854775808 ≤ x ∧ x ≤ 9223372036854775807) (w : World) : Calls Try.prog 7 #[.int .i64 x] w fun e w' => ∃ r G, e = .returned (rp r) ∧ RNew w w' r G (newSt x) := by
  have HQ : Hid (∀ y, y = max x 0 → RNew w (w.alloc (.cells #[.slice none 0 0, .int .i64 y, .int .i64 (-1)] 63)) w.heap.size (fun k => k = w.heap.size) (newSt x)) := by
    rintro y rfl
    refine ⟨⟨.slice none 0 0, [], ⟨heap_alloc_new w _, World.ownsRow_nil _ _ _ _, by simp [Value.ownBlock], (fun f hf => by cases hf), by simp only [newSt]; omega, by simp only [newSt]; omega, by simp only [newSt]; decide, by simp only [newSt]; decide⟩, rfl, ?_, fun k hk => by rw [hk]; simp⟩, (Touch.refl _ w).alloc _, fun k hk => by rw [hk]; exact Nat.le_refl _⟩
    rintro k (e | e | ⟨f, hf, _⟩)
    · exact e
    · simp [Value.ownBlock] at e
    · cases hf
  by_cases e : 0 ≤ x
  · have HZ := HQ.out x (by omega)
    have HY : Hid (RNew w (w.alloc (.cells #[.slice none 0 0, .int .i64 x, .int .i64 (-1)] 63)) w.heap.size (fun k => k = w.heap.size) (newSt x)) := HZ
    have hm : max x 0 = x := by omega
    clear HZ HQ
    go_enter Try.func7, Try.ntmps7
    go_wp2_with fail
    go_ret
    first | exact ⟨_, _, rfl, HY.out⟩ | exact ⟨_, rfl, _, HY.out⟩
  · have HZ := HQ.out 0 (by omega)
    have HY : Hid (RNew w (w.alloc (.cells #[.slice none 0 0, .int .i64 0, .int .i64 (-1)] 63)) w.heap.size (fun k => k = w.heap.size) (newSt x)) := HZ
    have hm : max x 0 = 0 := by omega
    clear HZ HQ
    go_enter Try.func7, Try.ntmps7
    go_wp2_with fail
    go_ret
    first | exact ⟨_, _, rfl, HY.out⟩ | exact ⟨_, rfl, _, HY.out⟩
end
end Go.Proofs.Ytfmpbkdmcgkeoaa

/- The document's disk in its state: Copy, Read. -/
namespace Go.Proofs.Ytfmpbkdmcgkeoaa
open Go.RowKit Go.Maps
set_option linter.unusedVariables false

section
variable {w : World} {r : Nat} {G : Nat → Prop} {s : St}
/-- A copy: its list is new, its bytes are those of the other one's. -/
def RCopied (w w' : World) (r c : Nat) (G H : Nat → Prop) (s : St) : Prop := RLive w' c H s ∧ Touch (fun _ => False) w w' ∧ ∀ k, k < w.heap.size → H k → G k
set_option maxRecDepth 100000 in
set_option maxHeartbeats 800000 in
theorem rCopy_any (h : RLive w r G s) (hn : s.fs.length ≤ 1073741823) : Calls Try.prog 30 #[rp r] w fun e w' => ∃ c H, e = .returned (rp c) ∧ RCopied w w' r c G H s := by
  obtain ⟨v, l, hC, hfs, hG, hGl⟩ := h
  have hll : l.length ≤ 1073741823 := by rw [hfs] at hn; simpa [absL] using hn
  obtain ⟨vo, cap, rfl, hno, hlc, hcm, hLt, hLd⟩ := hC.lies
  have td : Touch (fun _ => False) w w.drew := (Touch.refl _ w).drew
  have n0 : NewRow w w.drew (.slice none 0 0) [] := ⟨World.ownsRow_nil _ _ _ _, td, fun k hk => by simp [Value.ownBlock] at hk⟩
  have hLl : LiesR w.drew vo l := by have := (hLt l.length).touch td; rwa [List.take_length] at this
  obtain ⟨va, wA, ra1, na1⟩ := n0.app vo l.length cap l rfl hno hLl (by simp; omega)
  rw [List.nil_append] at na1
  have hva : ∃ ro rc, va = .slice ro l.length rc := by
    rcases na1.1.2 with ⟨e, h0⟩ | ⟨g, cp, cur, e, _⟩
    · exact ⟨none, 0, by rw [e, h0]⟩
    · exact ⟨_, _, e⟩
  obtain ⟨ro, rc, rfl⟩ := hva
  have HQ : Hid (∃ H, RCopied w (wA.alloc (.cells #[.slice ro l.length rc, .int .i64 s.room, .int .i64 (leftOf s.power)] 63)) r wA.heap.size G H s) := by
    have tA : Touch (fun _ => False) wA (wA.alloc (.cells #[.slice ro l.length rc, .int .i64 s.room, .int .i64 (leftOf s.power)] 63)) := (Touch.refl _ wA).alloc _
    have tw := na1.2.1.trans tA
    have hC2 : RCore (wA.alloc (.cells #[.slice ro l.length rc, .int .i64 s.room, .int .i64 (leftOf s.power)] 63)) wA.heap.size (.slice ro l.length rc) l s.room s.power := by
      refine ⟨heap_alloc_new wA _, rrow_touch na1.1 tA (fun _ _ => id), ?_, fun f hf => ?_, hC.room0, hC.room1, hC.pow0, hC.pow1⟩
      · intro e
        rcases na1.1.2 with ⟨e2, _⟩ | ⟨g, cp, cur, e2, _, hg, _⟩
        · rw [e2] at e; simp [Value.ownBlock] at e
        · rw [e2] at e; simp [Value.ownBlock] at e
          have := lt_of_heap hg; omega
      · have hfo := hC.ok f hf
        exact ⟨hfo.lies.keep fun e => tw.block f.g (hfo.lies.lt e) id, fun e x => by have := hfo.lies.lt e; have := na1.2.1.size; omega, hfo.none, hfo.le, hfo.cap, hfo.syn, hfo.len, hfo.name⟩
    refine ⟨fun k => k < (wA.alloc (.cells #[.slice ro l.length rc, .int .i64 s.room, .int .i64 (leftOf s.power)] 63)).heap.size ∧ (k < w.heap.size → G k), ⟨_, l, hC2, hfs, fun k hk => ⟨hC2.foot_lt hk, fun hlt => ?_⟩, fun k hk => hk.1⟩, tw, fun k hk hH => hH.2 hk⟩
    rcases hk with rfl | hk | ⟨f, hf, hb, rfl⟩
    · have := na1.2.1.size; omega
    · have := na1.2.2 k hk; omega
    · exact hG _ (.inr (.inr ⟨f, hf, hb, rfl⟩))
  have s0 : w.drew.cell? ⟨r, 0, none⟩ = some (.slice vo l.length cap) ∧ w.drew.cell? ⟨r, 1, none⟩ = some (.int .i64 s.room) ∧ w.drew.cell? ⟨r, 2, none⟩ = some (.int .i64 (leftOf s.power)) := ⟨hC.c0, hC.c1, hC.c2⟩
  have hrA : wA.heap[r]? = _ := (na1.2.1.block r (lt_of_heap hC.cells) id).trans hC.cells
  have sA : wA.cell? ⟨r, 0, none⟩ = some (.slice vo l.length cap) ∧ wA.cell? ⟨r, 1, none⟩ = some (.int .i64 s.room) ∧ wA.cell? ⟨r, 2, none⟩ = some (.int .i64 (leftOf s.power)) := by
    refine ⟨?_, ?_, ?_⟩ <;> rw [cell_of_block hrA] <;> rfl
  have hrB : (wA.alloc (.cells #[.slice ro l.length rc, .int .i64 s.room, .int .i64 (leftOf s.power)] 63)).heap[r]? = _ := (((Touch.refl (fun _ => False) wA).alloc _).block r (lt_of_heap hrA) id).trans hrA
  have sB : (wA.alloc (.cells #[.slice ro l.length rc, .int .i64 s.room, .int .i64 (leftOf s.power)] 63)).cell? ⟨r, 0, none⟩ = some (.slice vo l.length cap) ∧ (wA.alloc (.cells #[.slice ro l.length rc, .int .i64 s.room, .int .i64 (leftOf s.power)] 63)).cell? ⟨r, 1, none⟩ = some (.int .i64 s.room) ∧ (wA.alloc (.cells #[.slice ro l.length rc, .int .i64 s.room, .int .i64 (leftOf s.power)] 63)).cell? ⟨r, 2, none⟩ = some (.int .i64 (leftOf s.power)) := by
    refine ⟨?_, ?_, ?_⟩ <;> rw [cell_of_block hrB] <;> rfl
  clear hC hfs hG hGl hn hno hLt hLd td n0 hLl na1 hrA hrB
  generalize leftOf s.power = lf at *
  generalize s.room = rm at *
  go_enter Try.func30, Try.ntmps30
  go_wp2_with fail
  go_region_held3 (fun W => W.cell? ⟨r, 0, none⟩ = some (.slice vo l.length cap) ∧ W.cell? ⟨r, 1, none⟩ = some (.int .i64 rm) ∧ W.cell? ⟨r, 2, none⟩ = some (.int .i64 lf)) (first | assumption)
    (first | (refine step_append_runF (by rfl) _ _ rfl _ _ _ rfl rfl ra1 ?_))
  all_goals (try go_wp2_with fail)
  all_goals (obtain ⟨H, hH⟩ := HQ.out; go_ret; first | exact ⟨_, H, rfl, hH⟩ | exact ⟨_, rfl, H, hH⟩)
end
end Go.Proofs.Ytfmpbkdmcgkeoaa
