/- Views: slices.Reverse, at runes and at runs. -/
import Derived.Test.YtijkekkjiboomaaGreatDoorPart18
import Derived.Test.YtijkekkjiboomaaGreatDoorPart13
namespace Go.Proofs.YtijkekkjiboomaaGreatDoor
open Go.RowKit Go.Maps
set_option linter.unusedVariables false
set_option linter.unusedSimpArgs false
set_option maxRecDepth 100000

/-- Turned about so far. -/
def revUp {α : Type} (n i : Nat) (f : Nat → α) (j : Nat) : α := if j < i ∨ n ≤ j + i then f (n - 1 - j) else f j
theorem revUp_zero {α : Type} (n : Nat) (f : Nat → α) (j : Nat) (h : j < n) : revUp n 0 f j = f j := by unfold revUp; rw [if_neg (by omega)]
theorem revUp_lo {α : Type} {n i : Nat} (f : Nat → α) (h : i < n - 1 - i) : revUp n i f i = f i := by unfold revUp; rw [if_neg (by omega)]
theorem revUp_hi {α : Type} {n i : Nat} (f : Nat → α) (h : i < n - 1 - i) : revUp n i f (n - 1 - i) = f (n - 1 - i) := by unfold revUp; rw [if_neg (by omega)]
theorem revUp_succ {α : Type} {n i : Nat} (f : Nat → α) (h : i < n - 1 - i) (j : Nat) (hj : j < n) : revUp n (i + 1) f j = if j = n - 1 - i then f i else if j = i then f (n - 1 - i) else revUp n i f j := by
  unfold revUp
  by_cases e1 : j = n - 1 - i
  · rw [if_pos e1, if_pos (by omega), e1]
    congr 1; omega
  · rw [if_neg e1]
    by_cases e2 : j = i
    · rw [if_pos e2, if_pos (by omega), e2]
    · rw [if_neg e2]
      by_cases q : j < i ∨ n ≤ j + i
      · rw [if_pos q, if_pos (by omega)]
      · rw [if_neg q, if_neg (by omega)]
theorem revUp_end {α : Type} {n i : Nat} (f : Nat → α) (h : ¬ i < n - 1 - i) (j : Nat) (hj : j < n) : revUp n i f j = f (n - 1 - j) := by
  unfold revUp
  by_cases q : j < i ∨ n ≤ j + i
  · rw [if_pos q]
  · rw [if_neg q]
    congr 1; omega
/-- Runes lie at the beginning of a block. -/
def RnAt (W : World) (g n : Nat) (f : Nat → Int) : Prop := ∀ j, j < n → W.cell? ⟨g, j, none⟩ = some (.int .i32 (f j)) ∧ W.frozen? ⟨g, j, none⟩ = false
theorem cell_set_ne (W : World) (g i j : Nat) (v : Value) (h : i ≠ j) : (W.setCell ⟨g, i, none⟩ v).cell? ⟨g, j, none⟩ = W.cell? ⟨g, j, none⟩ := World.cell?_setCell_other _ _ _ _ (fun e => h (by cases e; rfl))
theorem frozen_set (W : World) (a b : Addr) (v : Value) : (W.setCell a v).frozen? b = W.frozen? b := World.frozen?_setCell _ _ _ _
theorem RnAt.drew {W : World} {g n : Nat} {f : Nat → Int} (h : RnAt W g n f) : RnAt W.drew g n f := h
theorem RnAt.set {W : World} {g n : Nat} {f : Nat → Int} (h : RnAt W g n f) (i : Nat) (hi : i < n) (x : Int) : RnAt (W.setCell ⟨g, i, none⟩ (.int .i32 x)) g n (fun j => if j = i then x else f j) := by
  intro j hj
  rw [frozen_set]
  refine ⟨?_, (h j hj).2⟩
  by_cases e : j = i
  · subst e
    show _ = some (Value.int .i32 (if j = j then x else f j))
    rw [if_pos rfl]
    exact World.cell?_setCell_same _ _ _ (h j hj).1
  · show _ = some (Value.int .i32 (if j = i then x else f j))
    rw [if_neg e, cell_set_ne _ _ _ _ _ (fun q => e q.symm)]
    exact (h j hj).1
theorem RnAt.congr {W : World} {g n : Nat} {f f' : Nat → Int} (h : RnAt W g n f) (e : ∀ j, j < n → f j = f' j) : RnAt W g n f' := fun j hj => by rw [← e j hj]; exact h j hj
set_option maxHeartbeats 8000000 in
theorem revR_any (g n cap : Nat) (f : Nat → Int) (hn : n ≤ 1048576) (w : World) (h : RnAt w g n f) :
    Calls Tryz.prog 74 #[.slice (some ⟨g, 0, none⟩) n cap] w fun e w' => e = .returned (.tuple #[]) ∧ RnAt w' g n (fun j => f (n - 1 - j)) ∧ Touch (fun k => k = g) w w' := by
  have H0 : Hid (RnAt w g n (revUp n 0 f)) := h.congr fun j hj => (revUp_zero n f j hj).symm
  clear h
  go_enter Tryz.func74, Tryz.ntmps74
  go_wp2_with fail
  go_loopg [2, 3] n (fun gk s2 s3 wr => ∃ i : Nat, (i + gk = n ∨ i = 0 ∧ n = 0) ∧ i ≤ n ∧ s2 = .int .i64 (i : Int) ∧ s3 = .int .i64 ((n : Int) - 1 - (i : Int)) ∧ Hid (RnAt wr g n (revUp n i f) ∧ Touch (fun k => k = g) w wr))
  case atStart => exact ⟨0, .inl (by omega), by omega, rfl, by simp, H0.out, Touch.refl _ _⟩
  case round =>
    obtain ⟨i, hig, hin, rfl, rfl, HI⟩ := hrel
    by_cases hlt : i < n - 1 - i
    · obtain ⟨b, hb⟩ : ∃ b, Hid (b = n - 1 - i) := ⟨_, Eq.refl _⟩
      have hbi : (n : Int) - 1 - (i : Int) = (b : Int) := by rw [hb.out]; omega
      rw [hbi]
      have hib : (i : Int) < (b : Int) := by omega
      have hbn : (b : Int) < (n : Int) := by rw [← hbi]; omega
      have hbn2 : b < n := by omega
      have hin2 : i < n := by omega
      have hne : i ≠ b := by omega
      have hi0 : (0 : Int) ≤ (i : Int) := by omega
      have hi2 : (i : Int) < (n : Int) := by omega
      have hb0 : (0 : Int) ≤ (b : Int) := by omega
      have R0 := HI.out.1
      have x1 : wr.cell? ⟨g, i, none⟩ = some (.int .i32 (f i)) := by rw [(R0 i hin2).1, revUp_lo f hlt]
      have x2 : wr.cell? ⟨g, b, none⟩ = some (.int .i32 (f b)) := by rw [(R0 b hbn2).1, hb.out, revUp_hi f hlt]
      have z1 := (R0 i hin2).2
      have z2 := (R0 b hbn2).2
      have y1 : (wr.setCell ⟨g, i, none⟩ (.int .i32 (f b))).cell? ⟨g, b, none⟩ = some (.int .i32 (f b)) := by rw [cell_set_ne _ _ _ _ _ hne]; exact x2
      have y2 : (wr.setCell ⟨g, i, none⟩ (.int .i32 (f b))).frozen? ⟨g, b, none⟩ = false := by rw [frozen_set]; exact z2
      have y3 : (wr.setCell ⟨g, b, none⟩ (.int .i32 (f i))).cell? ⟨g, i, none⟩ = some (.int .i32 (f i)) := by rw [cell_set_ne _ _ _ _ _ (Ne.symm hne)]; exact x1
      have y4 : (wr.setCell ⟨g, b, none⟩ (.int .i32 (f i))).frozen? ⟨g, i, none⟩ = false := by rw [frozen_set]; exact z1
      have HQ : Hid (RnAt ((wr.setCell ⟨g, i, none⟩ (.int .i32 (f b))).setCell ⟨g, b, none⟩ (.int .i32 (f i))).drew g n (revUp n (i + 1) f) ∧ Touch (fun k => k = g) w ((wr.setCell ⟨g, i, none⟩ (.int .i32 (f b))).setCell ⟨g, b, none⟩ (.int .i32 (f i))).drew) := by
        refine ⟨(((R0.set i hin2 (f b)).set b hbn2 (f i)).congr fun j hj => ?_).drew, ((HI.out.2.setCell _ _ fun _ => rfl).setCell _ _ fun _ => rfl).drew⟩
        rw [revUp_succ f hlt j hj, hb.out]
      clear R0 HI hbi
      generalize f i = fi at *
      generalize f b = fb at *
      go_wp2_with fail
      go_region
      all_goals (try go_wp2_with fail)
      go_roundg (n - (i + 1))
      case measure => omega
      case rel => exact ⟨i + 1, .inl (by omega), by omega, by go_num, by rw [hb.out]; congr 1; omega, HQ.out⟩
    · have HQ : Hid (RnAt wr g n (fun j => f (n - 1 - j)) ∧ Touch (fun k => k = g) w wr) := ⟨HI.out.1.congr fun j hj => revUp_end f hlt j hj, HI.out.2⟩
      have hge : ¬ (i : Int) < (n : Int) - 1 - (i : Int) := by omega
      clear HI
      go_wp2_with fail
      go_end0
      exact ⟨rfl, HQ.out⟩
/-- Runs lie at the beginning of a block. -/
def RwAt (W : World) (g n : Nat) (f : Nat → Rw) : Prop := ∀ j, j < n → W.cell? ⟨g, j * 7, none⟩ = some (.string (f j).tx) ∧ W.frozen? ⟨g, j * 7, none⟩ = false ∧ W.cell? ⟨g, j * 7 + 1, none⟩ = some (.bool (f j).em) ∧ W.frozen? ⟨g, j * 7 + 1, none⟩ = false ∧ W.cell? ⟨g, j * 7 + 2, none⟩ = some (.int .i64 (f j).vk) ∧ W.frozen? ⟨g, j * 7 + 2, none⟩ = false ∧ W.cell? ⟨g, j * 7 + 3, none⟩ = some (.int .i64 (f j).vn) ∧ W.frozen? ⟨g, j * 7 + 3, none⟩ = false ∧ W.cell? ⟨g, j * 7 + 4, none⟩ = some (.float .f64 (f j).vf) ∧ W.frozen? ⟨g, j * 7 + 4, none⟩ = false ∧ W.cell? ⟨g, j * 7 + 5, none⟩ = some (.string (f j).vs) ∧ W.frozen? ⟨g, j * 7 + 5, none⟩ = false ∧ W.cell? ⟨g, j * 7 + 6, none⟩ = some (.slice (f j).ms.a (f j).ms.n (f j).ms.c) ∧ W.frozen? ⟨g, j * 7 + 6, none⟩ = false
abbrev rwR (W : World) (g i : Nat) (r : Rw) : World := (((((((W.setCell ⟨g, i * 7, none⟩ (.string r.tx)).setCell ⟨g, i * 7 + 1, none⟩ (.bool r.em)).setCell ⟨g, i * 7 + 2, none⟩ (.int .i64 r.vk)).setCell ⟨g, i * 7 + 3, none⟩ (.int .i64 r.vn)).setCell ⟨g, i * 7 + 4, none⟩ (.float .f64 r.vf)).setCell ⟨g, i * 7 + 5, none⟩ (.string r.vs)).setCell ⟨g, i * 7 + 6, none⟩ (.slice r.ms.a r.ms.n r.ms.c))
theorem RwAt.congr {W : World} {g n : Nat} {f f' : Nat → Rw} (h : RwAt W g n f) (e : ∀ j, j < n → f j = f' j) : RwAt W g n f' := fun j hj => by rw [← e j hj]; exact h j hj
theorem RwAt.drew {W : World} {g n : Nat} {f : Nat → Rw} (h : RwAt W g n f) : RwAt W.drew g n f := h
theorem rwR_other (W : World) (g i : Nat) (r : Rw) (q : Nat) (h : q < i * 7 ∨ i * 7 + 7 ≤ q) : (rwR W g i r).cell? ⟨g, q, none⟩ = W.cell? ⟨g, q, none⟩ := by
  show (World.setCell _ ⟨g, i * 7 + 6, none⟩ _).cell? _ = _
  rw [cell_set_ne _ _ (i * 7 + 6) q _ (by omega)]
  rw [cell_set_ne _ _ (i * 7 + 5) q _ (by omega)]
  rw [cell_set_ne _ _ (i * 7 + 4) q _ (by omega)]
  rw [cell_set_ne _ _ (i * 7 + 3) q _ (by omega)]
  rw [cell_set_ne _ _ (i * 7 + 2) q _ (by omega)]
  rw [cell_set_ne _ _ (i * 7 + 1) q _ (by omega)]
  rw [cell_set_ne _ _ (i * 7) q _ (by omega)]
theorem rwR_frozen (W : World) (g i : Nat) (r : Rw) (b : Addr) : (rwR W g i r).frozen? b = W.frozen? b := by
  show (World.setCell _ ⟨g, i * 7 + 6, none⟩ _).frozen? _ = _
  rw [frozen_set, frozen_set, frozen_set, frozen_set, frozen_set, frozen_set, frozen_set]
theorem rwR_get0 {W : World} {g i : Nat} {o : Value} (r : Rw) (h : W.cell? ⟨g, i * 7, none⟩ = some o) : (rwR W g i r).cell? ⟨g, i * 7, none⟩ = some (.string r.tx) := by
  show (World.setCell _ ⟨g, i * 7 + 6, none⟩ _).cell? _ = _
  rw [cell_set_ne _ _ (i * 7 + 6) (i * 7) _ (by omega)]
  rw [cell_set_ne _ _ (i * 7 + 5) (i * 7) _ (by omega)]
  rw [cell_set_ne _ _ (i * 7 + 4) (i * 7) _ (by omega)]
  rw [cell_set_ne _ _ (i * 7 + 3) (i * 7) _ (by omega)]
  rw [cell_set_ne _ _ (i * 7 + 2) (i * 7) _ (by omega)]
  rw [cell_set_ne _ _ (i * 7 + 1) (i * 7) _ (by omega)]
  refine World.cell?_setCell_same (u := o) _ _ _ ?_
  exact h
theorem rwR_get1 {W : World} {g i : Nat} {o : Value} (r : Rw) (h : W.cell? ⟨g, i * 7 + 1, none⟩ = some o) : (rwR W g i r).cell? ⟨g, i * 7 + 1, none⟩ = some (.bool r.em) := by
  show (World.setCell _ ⟨g, i * 7 + 6, none⟩ _).cell? _ = _
  rw [cell_set_ne _ _ (i * 7 + 6) (i * 7 + 1) _ (by omega)]
  rw [cell_set_ne _ _ (i * 7 + 5) (i * 7 + 1) _ (by omega)]
  rw [cell_set_ne _ _ (i * 7 + 4) (i * 7 + 1) _ (by omega)]
  rw [cell_set_ne _ _ (i * 7 + 3) (i * 7 + 1) _ (by omega)]
  rw [cell_set_ne _ _ (i * 7 + 2) (i * 7 + 1) _ (by omega)]
  refine World.cell?_setCell_same (u := o) _ _ _ ?_
  rw [cell_set_ne _ _ (i * 7) (i * 7 + 1) _ (by omega)]
  exact h
theorem rwR_get2 {W : World} {g i : Nat} {o : Value} (r : Rw) (h : W.cell? ⟨g, i * 7 + 2, none⟩ = some o) : (rwR W g i r).cell? ⟨g, i * 7 + 2, none⟩ = some (.int .i64 r.vk) := by
  show (World.setCell _ ⟨g, i * 7 + 6, none⟩ _).cell? _ = _
  rw [cell_set_ne _ _ (i * 7 + 6) (i * 7 + 2) _ (by omega)]
  rw [cell_set_ne _ _ (i * 7 + 5) (i * 7 + 2) _ (by omega)]
  rw [cell_set_ne _ _ (i * 7 + 4) (i * 7 + 2) _ (by omega)]
  rw [cell_set_ne _ _ (i * 7 + 3) (i * 7 + 2) _ (by omega)]
  refine World.cell?_setCell_same (u := o) _ _ _ ?_
  rw [cell_set_ne _ _ (i * 7 + 1) (i * 7 + 2) _ (by omega)]
  rw [cell_set_ne _ _ (i * 7) (i * 7 + 2) _ (by omega)]
  exact h
theorem rwR_get3 {W : World} {g i : Nat} {o : Value} (r : Rw) (h : W.cell? ⟨g, i * 7 + 3, none⟩ = some o) : (rwR W g i r).cell? ⟨g, i * 7 + 3, none⟩ = some (.int .i64 r.vn) := by
  show (World.setCell _ ⟨g, i * 7 + 6, none⟩ _).cell? _ = _
  rw [cell_set_ne _ _ (i * 7 + 6) (i * 7 + 3) _ (by omega)]
  rw [cell_set_ne _ _ (i * 7 + 5) (i * 7 + 3) _ (by omega)]
  rw [cell_set_ne _ _ (i * 7 + 4) (i * 7 + 3) _ (by omega)]
  refine World.cell?_setCell_same (u := o) _ _ _ ?_
  rw [cell_set_ne _ _ (i * 7 + 2) (i * 7 + 3) _ (by omega)]
  rw [cell_set_ne _ _ (i * 7 + 1) (i * 7 + 3) _ (by omega)]
  rw [cell_set_ne _ _ (i * 7) (i * 7 + 3) _ (by omega)]
  exact h
theorem rwR_get4 {W : World} {g i : Nat} {o : Value} (r : Rw) (h : W.cell? ⟨g, i * 7 + 4, none⟩ = some o) : (rwR W g i r).cell? ⟨g, i * 7 + 4, none⟩ = some (.float .f64 r.vf) := by
  show (World.setCell _ ⟨g, i * 7 + 6, none⟩ _).cell? _ = _
  rw [cell_set_ne _ _ (i * 7 + 6) (i * 7 + 4) _ (by omega)]
  rw [cell_set_ne _ _ (i * 7 + 5) (i * 7 + 4) _ (by omega)]
  refine World.cell?_setCell_same (u := o) _ _ _ ?_
  rw [cell_set_ne _ _ (i * 7 + 3) (i * 7 + 4) _ (by omega)]
  rw [cell_set_ne _ _ (i * 7 + 2) (i * 7 + 4) _ (by omega)]
  rw [cell_set_ne _ _ (i * 7 + 1) (i * 7 + 4) _ (by omega)]
  rw [cell_set_ne _ _ (i * 7) (i * 7 + 4) _ (by omega)]
  exact h
theorem rwR_get5 {W : World} {g i : Nat} {o : Value} (r : Rw) (h : W.cell? ⟨g, i * 7 + 5, none⟩ = some o) : (rwR W g i r).cell? ⟨g, i * 7 + 5, none⟩ = some (.string r.vs) := by
  show (World.setCell _ ⟨g, i * 7 + 6, none⟩ _).cell? _ = _
  rw [cell_set_ne _ _ (i * 7 + 6) (i * 7 + 5) _ (by omega)]
  refine World.cell?_setCell_same (u := o) _ _ _ ?_
  rw [cell_set_ne _ _ (i * 7 + 4) (i * 7 + 5) _ (by omega)]
  rw [cell_set_ne _ _ (i * 7 + 3) (i * 7 + 5) _ (by omega)]
  rw [cell_set_ne _ _ (i * 7 + 2) (i * 7 + 5) _ (by omega)]
  rw [cell_set_ne _ _ (i * 7 + 1) (i * 7 + 5) _ (by omega)]
  rw [cell_set_ne _ _ (i * 7) (i * 7 + 5) _ (by omega)]
  exact h
theorem rwR_get6 {W : World} {g i : Nat} {o : Value} (r : Rw) (h : W.cell? ⟨g, i * 7 + 6, none⟩ = some o) : (rwR W g i r).cell? ⟨g, i * 7 + 6, none⟩ = some (.slice r.ms.a r.ms.n r.ms.c) := by
  show (World.setCell _ ⟨g, i * 7 + 6, none⟩ _).cell? _ = _
  refine World.cell?_setCell_same (u := o) _ _ _ ?_
  rw [cell_set_ne _ _ (i * 7 + 5) (i * 7 + 6) _ (by omega)]
  rw [cell_set_ne _ _ (i * 7 + 4) (i * 7 + 6) _ (by omega)]
  rw [cell_set_ne _ _ (i * 7 + 3) (i * 7 + 6) _ (by omega)]
  rw [cell_set_ne _ _ (i * 7 + 2) (i * 7 + 6) _ (by omega)]
  rw [cell_set_ne _ _ (i * 7 + 1) (i * 7 + 6) _ (by omega)]
  rw [cell_set_ne _ _ (i * 7) (i * 7 + 6) _ (by omega)]
  exact h
theorem RwAt.set {W : World} {g n : Nat} {f : Nat → Rw} (h : RwAt W g n f) (i : Nat) (hi : i < n) (r : Rw) : RwAt (rwR W g i r) g n (fun j => if j = i then r else f j) := by
  intro j hj
  simp only [rwR_frozen]
  obtain ⟨a0, b0, a1, b1, a2, b2, a3, b3, a4, b4, a5, b5, a6, b6⟩ := h j hj
  by_cases e : j = i
  · subst e
    simp only [if_true]
    exact ⟨rwR_get0 r a0, b0, rwR_get1 r a1, b1, rwR_get2 r a2, b2, rwR_get3 r a3, b3, rwR_get4 r a4, b4, rwR_get5 r a5, b5, rwR_get6 r a6, b6⟩
  · simp only [if_neg e]
    refine ⟨by rw [rwR_other _ _ _ _ _ (by omega)]; exact a0, b0, by rw [rwR_other _ _ _ _ _ (by omega)]; exact a1, b1, by rw [rwR_other _ _ _ _ _ (by omega)]; exact a2, b2, by rw [rwR_other _ _ _ _ _ (by omega)]; exact a3, b3, by rw [rwR_other _ _ _ _ _ (by omega)]; exact a4, b4, by rw [rwR_other _ _ _ _ _ (by omega)]; exact a5, b5, by rw [rwR_other _ _ _ _ _ (by omega)]; exact a6, b6⟩
theorem rwR_steps {W : World} {g i : Nat} {x : Rw} (h : W.cell? ⟨g, i * 7, none⟩ = some (.string x.tx) ∧ W.frozen? ⟨g, i * 7, none⟩ = false ∧ W.cell? ⟨g, i * 7 + 1, none⟩ = some (.bool x.em) ∧ W.frozen? ⟨g, i * 7 + 1, none⟩ = false ∧ W.cell? ⟨g, i * 7 + 2, none⟩ = some (.int .i64 x.vk) ∧ W.frozen? ⟨g, i * 7 + 2, none⟩ = false ∧ W.cell? ⟨g, i * 7 + 3, none⟩ = some (.int .i64 x.vn) ∧ W.frozen? ⟨g, i * 7 + 3, none⟩ = false ∧ W.cell? ⟨g, i * 7 + 4, none⟩ = some (.float .f64 x.vf) ∧ W.frozen? ⟨g, i * 7 + 4, none⟩ = false ∧ W.cell? ⟨g, i * 7 + 5, none⟩ = some (.string x.vs) ∧ W.frozen? ⟨g, i * 7 + 5, none⟩ = false ∧ W.cell? ⟨g, i * 7 + 6, none⟩ = some (.slice x.ms.a x.ms.n x.ms.c) ∧ W.frozen? ⟨g, i * 7 + 6, none⟩ = false) (r : Rw) : W.cell? ⟨g, i * 7, none⟩ = some (.string x.tx) ∧ W.frozen? ⟨g, i * 7, none⟩ = false ∧ (W.setCell ⟨g, i * 7, none⟩ (.string r.tx)).cell? ⟨g, i * 7 + 1, none⟩ = some (.bool x.em) ∧ (W.setCell ⟨g, i * 7, none⟩ (.string r.tx)).frozen? ⟨g, i * 7 + 1, none⟩ = false ∧ ((W.setCell ⟨g, i * 7, none⟩ (.string r.tx)).setCell ⟨g, i * 7 + 1, none⟩ (.bool r.em)).cell? ⟨g, i * 7 + 2, none⟩ = some (.int .i64 x.vk) ∧ ((W.setCell ⟨g, i * 7, none⟩ (.string r.tx)).setCell ⟨g, i * 7 + 1, none⟩ (.bool r.em)).frozen? ⟨g, i * 7 + 2, none⟩ = false ∧ (((W.setCell ⟨g, i * 7, none⟩ (.string r.tx)).setCell ⟨g, i * 7 + 1, none⟩ (.bool r.em)).setCell ⟨g, i * 7 + 2, none⟩ (.int .i64 r.vk)).cell? ⟨g, i * 7 + 3, none⟩ = some (.int .i64 x.vn) ∧ (((W.setCell ⟨g, i * 7, none⟩ (.string r.tx)).setCell ⟨g, i * 7 + 1, none⟩ (.bool r.em)).setCell ⟨g, i * 7 + 2, none⟩ (.int .i64 r.vk)).frozen? ⟨g, i * 7 + 3, none⟩ = false ∧ ((((W.setCell ⟨g, i * 7, none⟩ (.string r.tx)).setCell ⟨g, i * 7 + 1, none⟩ (.bool r.em)).setCell ⟨g, i * 7 + 2, none⟩ (.int .i64 r.vk)).setCell ⟨g, i * 7 + 3, none⟩ (.int .i64 r.vn)).cell? ⟨g, i * 7 + 4, none⟩ = some (.float .f64 x.vf) ∧ ((((W.setCell ⟨g, i * 7, none⟩ (.string r.tx)).setCell ⟨g, i * 7 + 1, none⟩ (.bool r.em)).setCell ⟨g, i * 7 + 2, none⟩ (.int .i64 r.vk)).setCell ⟨g, i * 7 + 3, none⟩ (.int .i64 r.vn)).frozen? ⟨g, i * 7 + 4, none⟩ = false ∧ (((((W.setCell ⟨g, i * 7, none⟩ (.string r.tx)).setCell ⟨g, i * 7 + 1, none⟩ (.bool r.em)).setCell ⟨g, i * 7 + 2, none⟩ (.int .i64 r.vk)).setCell ⟨g, i * 7 + 3, none⟩ (.int .i64 r.vn)).setCell ⟨g, i * 7 + 4, none⟩ (.float .f64 r.vf)).cell? ⟨g, i * 7 + 5, none⟩ = some (.string x.vs) ∧ (((((W.setCell ⟨g, i * 7, none⟩ (.string r.tx)).setCell ⟨g, i * 7 + 1, none⟩ (.bool r.em)).setCell ⟨g, i * 7 + 2, none⟩ (.int .i64 r.vk)).setCell ⟨g, i * 7 + 3, none⟩ (.int .i64 r.vn)).setCell ⟨g, i * 7 + 4, none⟩ (.float .f64 r.vf)).frozen? ⟨g, i * 7 + 5, none⟩ = false ∧ ((((((W.setCell ⟨g, i * 7, none⟩ (.string r.tx)).setCell ⟨g, i * 7 + 1, none⟩ (.bool r.em)).setCell ⟨g, i * 7 + 2, none⟩ (.int .i64 r.vk)).setCell ⟨g, i * 7 + 3, none⟩ (.int .i64 r.vn)).setCell ⟨g, i * 7 + 4, none⟩ (.float .f64 r.vf)).setCell ⟨g, i * 7 + 5, none⟩ (.string r.vs)).cell? ⟨g, i * 7 + 6, none⟩ = some (.slice x.ms.a x.ms.n x.ms.c) ∧ ((((((W.setCell ⟨g, i * 7, none⟩ (.string r.tx)).setCell ⟨g, i * 7 + 1, none⟩ (.bool r.em)).setCell ⟨g, i * 7 + 2, none⟩ (.int .i64 r.vk)).setCell ⟨g, i * 7 + 3, none⟩ (.int .i64 r.vn)).setCell ⟨g, i * 7 + 4, none⟩ (.float .f64 r.vf)).setCell ⟨g, i * 7 + 5, none⟩ (.string r.vs)).frozen? ⟨g, i * 7 + 6, none⟩ = false := by
  obtain ⟨a0, b0, a1, b1, a2, b2, a3, b3, a4, b4, a5, b5, a6, b6⟩ := h
  refine ⟨?_, ?_, ?_, ?_, ?_, ?_, ?_, ?_, ?_, ?_, ?_, ?_, ?_, ?_⟩
  · exact a0
  · exact b0
  · rw [cell_set_ne _ _ (i * 7) (i * 7 + 1) _ (by omega)]; exact a1
  · rw [frozen_set]; exact b1
  · rw [cell_set_ne _ _ (i * 7 + 1) (i * 7 + 2) _ (by omega)]; rw [cell_set_ne _ _ (i * 7) (i * 7 + 2) _ (by omega)]; exact a2
  · rw [frozen_set, frozen_set]; exact b2
  · rw [cell_set_ne _ _ (i * 7 + 2) (i * 7 + 3) _ (by omega)]; rw [cell_set_ne _ _ (i * 7 + 1) (i * 7 + 3) _ (by omega)]; rw [cell_set_ne _ _ (i * 7) (i * 7 + 3) _ (by omega)]; exact a3
  · rw [frozen_set, frozen_set, frozen_set]; exact b3
  · rw [cell_set_ne _ _ (i * 7 + 3) (i * 7 + 4) _ (by omega)]; rw [cell_set_ne _ _ (i * 7 + 2) (i * 7 + 4) _ (by omega)]; rw [cell_set_ne _ _ (i * 7 + 1) (i * 7 + 4) _ (by omega)]; rw [cell_set_ne _ _ (i * 7) (i * 7 + 4) _ (by omega)]; exact a4
  · rw [frozen_set, frozen_set, frozen_set, frozen_set]; exact b4
  · rw [cell_set_ne _ _ (i * 7 + 4) (i * 7 + 5) _ (by omega)]; rw [cell_set_ne _ _ (i * 7 + 3) (i * 7 + 5) _ (by omega)]; rw [cell_set_ne _ _ (i * 7 + 2) (i * 7 + 5) _ (by omega)]; rw [cell_set_ne _ _ (i * 7 + 1) (i * 7 + 5) _ (by omega)]; rw [cell_set_ne _ _ (i * 7) (i * 7 + 5) _ (by omega)]; exact a5
  · rw [frozen_set, frozen_set, frozen_set, frozen_set, frozen_set]; exact b5
  · rw [cell_set_ne _ _ (i * 7 + 5) (i * 7 + 6) _ (by omega)]; rw [cell_set_ne _ _ (i * 7 + 4) (i * 7 + 6) _ (by omega)]; rw [cell_set_ne _ _ (i * 7 + 3) (i * 7 + 6) _ (by omega)]; rw [cell_set_ne _ _ (i * 7 + 2) (i * 7 + 6) _ (by omega)]; rw [cell_set_ne _ _ (i * 7 + 1) (i * 7 + 6) _ (by omega)]; rw [cell_set_ne _ _ (i * 7) (i * 7 + 6) _ (by omega)]; exact a6
  · rw [frozen_set, frozen_set, frozen_set, frozen_set, frozen_set, frozen_set]; exact b6
theorem rwR_touch {w W : World} {g : Nat} (t : Touch (fun k => k = g) w W) (i : Nat) (r : Rw) : Touch (fun k => k = g) w (rwR W g i r) := by
  have k : ∀ {V : World} (i : Nat) (v : Value), Touch (fun k => k = g) w V → Touch (fun k => k = g) w (V.setCell ⟨g, i, none⟩ v) := fun i v t => t.setCell _ _ (fun _ => rfl)
  have t1 := k (i * 7) (.string r.tx) t
  have t2 := k (i * 7 + 1) (.bool r.em) t1
  have t3 := k (i * 7 + 2) (.int .i64 r.vk) t2
  have t4 := k (i * 7 + 3) (.int .i64 r.vn) t3
  have t5 := k (i * 7 + 4) (.float .f64 r.vf) t4
  have t6 := k (i * 7 + 5) (.string r.vs) t5
  have t7 := k (i * 7 + 6) (.slice r.ms.a r.ms.n r.ms.c) t6
  exact t7
set_option maxHeartbeats 16000000 in
theorem revW_any (g n cap : Nat) (f : Nat → Rw) (hn : n ≤ 1048576) (w : World) (h : RwAt w g n f) :
    Calls Tryz.prog 73 #[.slice (some ⟨g, 0, none⟩) n cap] w fun e w' => e = .returned (.tuple #[]) ∧ RwAt w' g n (fun j => f (n - 1 - j)) ∧ Touch (fun k => k = g) w w' := by
  have H0 : Hid (RwAt w g n (revUp n 0 f)) := h.congr fun j hj => (revUp_zero n f j hj).symm
  clear h
  go_enter Tryz.func73, Tryz.ntmps73
  go_wp2_with fail
  go_loopg [2, 3] n (fun gk s2 s3 wr => ∃ i : Nat, (i + gk = n ∨ i = 0 ∧ n = 0) ∧ i ≤ n ∧ s2 = .int .i64 (i : Int) ∧ s3 = .int .i64 ((n : Int) - 1 - (i : Int)) ∧ Hid (RwAt wr g n (revUp n i f) ∧ Touch (fun k => k = g) w wr))
  case atStart => exact ⟨0, .inl (by omega), by omega, rfl, by simp, H0.out, Touch.refl _ _⟩
  case round =>
    obtain ⟨i, hig, hin, rfl, rfl, HI⟩ := hrel
    by_cases hlt : i < n - 1 - i
    · obtain ⟨b, hb⟩ : ∃ b, Hid (b = n - 1 - i) := ⟨_, Eq.refl _⟩
      have hbi : (n : Int) - 1 - (i : Int) = (b : Int) := by rw [hb.out]; omega
      rw [hbi]
      have hib : (i : Int) < (b : Int) := by omega
      have hbn : (b : Int) < (n : Int) := by rw [← hbi]; omega
      have hbn2 : b < n := by omega
      have hin2 : i < n := by omega
      have hne : b ≠ i := by omega
      have hi0 : (0 : Int) ≤ (i : Int) := by omega
      have hi2 : (i : Int) < (n : Int) := by omega
      have hb0 : (0 : Int) ≤ (b : Int) := by omega
      have R0 := HI.out.1
      have X1 := R0 i hin2
      have X2 := R0 b hbn2
      have R1 := R0.set i hin2 (f b)
      have Y2 := R1 b hbn2
      simp only [if_neg hne] at Y2
      rw [hb.out] at X2 Y2
      rw [revUp_lo f hlt] at X1
      rw [revUp_hi f hlt, ← hb.out] at X2 Y2
      have HQ : Hid (RwAt (rwR (rwR wr g i (f b)) g b (f i)).drew g n (revUp n (i + 1) f) ∧ Touch (fun k => k = g) w (rwR (rwR wr g i (f b)) g b (f i)).drew) := by
        refine ⟨((R1.set b hbn2 (f i)).congr fun j hj => ?_).drew, (rwR_touch (rwR_touch HI.out.2 _ _) _ _).drew⟩
        rw [revUp_succ f hlt j hj, hb.out]
      have HMs : Hid (n - (i + 1) < gk) := by show _ < _; omega
      have HR : Hid (∃ i' : Nat, (i' + (n - (i + 1)) = n ∨ i' = 0 ∧ n = 0) ∧ i' ≤ n ∧ (.int .i64 ((i : Int) + 1) : Value) = .int .i64 (i' : Int) ∧ (.int .i64 ((b : Int) - 1) : Value) = .int .i64 ((n : Int) - 1 - (i' : Int)) ∧ Hid (RwAt (rwR (rwR wr g i (f b)) g b (f i)).drew g n (revUp n i' f) ∧ Touch (fun k => k = g) w (rwR (rwR wr g i (f b)) g b (f i)).drew)) := ⟨i + 1, .inl (by omega), by omega, by go_num, by rw [hb.out]; congr 1; omega, HQ.out⟩
      clear HQ
      have S1 := rwR_steps X1 (f b)
      have S2 := rwR_steps Y2 (f i)
      clear R0 R1 HI hbi Y2
      generalize f i = fi at *
      generalize f b = fb at *
      obtain ⟨atx, aem, avk, avn, avf, avs, ⟨ama, amn, amc⟩⟩ := fi
      obtain ⟨btx, bem, bvk, bvn, bvf, bvs, ⟨bma, bmn, bmc⟩⟩ := fb
      obtain ⟨xa0, xa1, xa2, xa3, xa4, xa5, xa6, xa7, xa8, xa9, xa10, xa11, xa12, xa13⟩ := X1
      obtain ⟨xb0, xb1, xb2, xb3, xb4, xb5, xb6, xb7, xb8, xb9, xb10, xb11, xb12, xb13⟩ := X2
      obtain ⟨sa0, sa1, sa2, sa3, sa4, sa5, sa6, sa7, sa8, sa9, sa10, sa11, sa12, sa13⟩ := S1
      obtain ⟨sb0, sb1, sb2, sb3, sb4, sb5, sb6, sb7, sb8, sb9, sb10, sb11, sb12, sb13⟩ := S2
      have hst := run_store_f64 Tryz.prog
      dsimp only [rwR] at HR
      go_wp2_with fail
      go_region
      all_goals (try go_wp2_with fail)
      go_roundg (n - (i + 1))
      case measure => exact HMs.out
      case rel => exact HR.out
    · have HQ : Hid (RwAt wr g n (fun j => f (n - 1 - j)) ∧ Touch (fun k => k = g) w wr) := ⟨HI.out.1.congr fun j hj => revUp_end f hlt j hj, HI.out.2⟩
      have hge : ¬ (i : Int) < (n : Int) - 1 - (i : Int) := by omega
      clear HI
      go_wp2_with fail
      go_end0
      exact ⟨rfl, HQ.out⟩
end Go.Proofs.YtijkekkjiboomaaGreatDoor
