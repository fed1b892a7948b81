/- Package seq's row: grow, first. -/
import Derived.Test.YtcolbgbmnmkogabSeqR4
import Derived.Test.YtcolbgbmnmkogabTreG
namespace Go.Proofs.Ytcolbgbmnmkogab
open Go.RowKit
set_option linter.unusedVariables false
set_option linter.unusedSimpArgs false
set_option maxRecDepth 100000

/-- A way up in the array: each one's up is the next, the last one's none. -/
def WayUp (A : Nat → Th) : List Nat → Prop
  | [] => True
  | [x] => (A x).up = 0
  | x :: y :: l => (A x).up = y ∧ WayUp A (y :: l)
theorem WayUp.at {A : Nat → Th} {x : Nat} {rem : List Nat} : ∀ {dn : List Nat}, WayUp A (dn ++ x :: rem) → (A x).up = rem.headD 0
  | [], h => by
    cases rem with
    | nil => exact h
    | cons z rem => exact h.1
  | [d], h => WayUp.at (dn := []) h.2
  | d :: d' :: dn, h => WayUp.at (dn := d' :: dn) h.2
theorem RepC.way {A : Nat → Th} : ∀ {c : List Fr} {i : Nat} {s : Int}, RepC A c i s → (A i).up = par c → WayUp A (i :: ups c)
  | [], _, _, _, h => h
  | .L u r :: c, i, s, ⟨h1, _, _, _, _, h6⟩, h => ⟨h, RepC.way h6 h1⟩
  | .R l u :: c, i, s, ⟨h1, _, _, _, _, h6⟩, h => ⟨h, RepC.way h6 h1⟩
theorem st_st {L : List Th} {i f : Nat} {y : Int} (h : i < L.length) : gt (st L i f y) = upd (gt L) i f y := by
  funext j
  rw [gt_st h]
  rfl
theorem moreL_st {L : List Th} {i : Nat} {n : Int} (h : i < L.length) : gt (st L i 3 ((gt L i).long + n)) = moreL (gt L) i n := by
  rw [st_st h]
  rfl
theorem moreW_st {L : List Th} {A : Nat → Th} {P : List Nat} {x : Nat} {n : Int} (h : x < L.length) (e : gt L = moreW A P n) (hx : x ∉ P) : gt (st L x 4 ((gt L x).whole + n)) = moreW A (P ++ [x]) n := by
  rw [st_st h, e]
  funext j
  unfold upd moreW
  by_cases hj : j = x
  · subst hj
    simp [hx, Th.put]
  · simp [hj]
set_option maxHeartbeats 8000000 in
theorem grow_any {w : World} {b k g cap : Nat} {L : List Th} (h : Things w b k g cap L) (i : Nat) (P : List Nat) (n : Int) (hi : i < L.length) (hi0 : i ≠ 0) (hP : ∀ x ∈ i :: P, x < L.length ∧ x ≠ 0) (hN : (i :: P).Nodup) (hW : WayUp (gt L) (i :: P))
    (w0 : ∀ x ∈ i :: P, IntKind.i64.wrap ((gt L x).whole + n) = (gt L x).whole + n) (w1 : IntKind.i64.wrap ((gt L i).long + n) = (gt L i).long + n) :
    Calls Try.prog 60 #[rP b k, iV (i : Int), iV n] w fun e w' => e = .returned (.tuple #[]) ∧ (∃ L', Things w' b k g cap L' ∧ L'.length = L.length ∧ gt L' = growA (gt L) i (i :: P) n) ∧ Touch (· = g) w w' := by
  have hc := h.cell
  have t1 := h.th i hi
  rw [← gt_of hi] at t1
  have c3 := t1.c3
  have z3 : w.frozen? ⟨g, i * 5 + 3, none⟩ = false := h.free _
  have li : (i : Int) < (L.length : Int) := by omega
  have li0 : (0 : Int) ≤ (i : Int) := by omega
  obtain ⟨W1, hW1⟩ : ∃ W, Hid (W = w.setCell ⟨g, i * 5 + 3, none⟩ (iV ((gt L i).long + n))) := ⟨_, Eq.refl _⟩
  have H1 : Hid (Things W1 b k g cap (st L i 3 ((gt L i).long + n)) ∧ Touch (· = g) w W1) := by
    rw [hW1.out]
    exact ⟨h.st i hi 3 (by omega) _ (.inr (by omega)), (Touch.refl _ _).cellG _ _⟩
  obtain ⟨L1, hL1⟩ : ∃ l, Hid (l = st L i 3 ((gt L i).long + n)) := ⟨_, Eq.refl _⟩
  have HL1 : Hid (L1.length = L.length ∧ gt L1 = moreL (gt L) i n) := by rw [hL1.out]; exact ⟨st_len _ _ _ _, moreL_st hi⟩
  rw [← hL1.out] at H1
  have HP : Hid (∀ x ∈ i :: P, x < L.length ∧ x ≠ 0) := hP
  have HNd : Hid (i :: P).Nodup := hN
  have HWy : Hid (WayUp (gt L) (i :: P)) := hW
  have HW0 : Hid (∀ x ∈ i :: P, IntKind.i64.wrap ((gt L x).whole + n) = (gt L x).whole + n) := w0
  obtain ⟨A, hA⟩ : ∃ A, Hid (A = moreL (gt L) i n) := ⟨_, Eq.refl _⟩
  have HA : Hid ((∀ x, (A x).up = (gt L x).up) ∧ ∀ x, (A x).whole = (gt L x).whole) := by
    rw [hA.out]
    exact ⟨fun x => by unfold moreL; split <;> (try subst_vars) <;> rfl, fun x => by unfold moreL; split <;> (try subst_vars) <;> rfl⟩
  generalize (gt L i).long = tl at *
  clear h t1 hP hN hW w0 hL1
  go_enter Try.func60, Try.ntmps60
  go_wp2_with fail
  rw [← hW1.out]
  clear hW1 hc c3 z3
  go_loopg [1] (P.length + 1) (fun gk s1 wx => ∃ (dn rem : List Nat) (x : Nat) (Lx : List Th), Hid (i :: P = dn ++ rem) ∧ Hid (rem.length = gk) ∧ s1 = iV (x : Int) ∧ Hid (x = rem.headD 0) ∧ Hid (Things wx b k g cap Lx ∧ Touch (· = g) w wx ∧ Lx.length = L.length ∧ gt Lx = moreW A dn n))
  case atStart => exact ⟨[], i :: P, i, L1, Eq.refl _, Eq.refl _, rfl, Eq.refl _, H1.out.1, H1.out.2, HL1.out.1, by rw [HL1.out.2, ← hA.out]; funext j; simp [moreW]⟩
  case round =>
    obtain ⟨dn, rem, x, Lx, HD, HR, rfl, HX, HI⟩ := hrel
    obtain ⟨X0, hX0⟩ : ∃ X, X = wr := ⟨_, rfl⟩
    subst hX0
    cases rem with
    | nil =>
      have hx : x = 0 := HX.out
      subst hx
      have HF : Hid (gt Lx = growA (gt L) i (i :: P) n) := by
        have := HD.out
        rw [List.append_nil] at this
        rw [HI.out.2.2.2, ← this, hA.out]
        exact Eq.refl _
      go_wp2_with fail
      go_end0
      exact ⟨rfl, ⟨Lx, HI.out.1, HI.out.2.2.1, HF.out⟩, HI.out.2.1⟩
    | cons y rem =>
      have hx : x = y := HX.out
      subst hx
      have hmem : x ∈ i :: P := by rw [HD.out]; simp
      have hnd : x ∉ dn := by
        have := HNd.out
        rw [HD.out] at this
        intro h'
        exact (List.nodup_append.1 this).2.2 x h' x (by simp) rfl
      obtain ⟨hxl, hx0⟩ := HP.out x hmem
      have hlx : Lx.length = L.length := HI.out.2.2.1
      have egx : (gt Lx x).whole = (gt L x).whole ∧ (gt Lx x).up = (gt L x).up := by
        rw [HI.out.2.2.2]
        unfold moreW
        rw [if_neg hnd]
        exact ⟨HA.out.2 x, HA.out.1 x⟩
      have hxL : x < Lx.length := by omega
      have t1 := HI.out.1.th x hxL
      rw [← gt_of hxL] at t1
      have c4 := t1.c4
      rw [egx.1] at c4
      have hc := HI.out.1.cell
      rw [hlx] at hc
      have z4 : X0.frozen? ⟨g, x * 5 + 4, none⟩ = false := HI.out.1.free _
      have w4 := HW0.out x hmem
      obtain ⟨X1, hX1⟩ : ∃ W, Hid (W = X0.setCell ⟨g, x * 5 + 4, none⟩ (iV ((gt L x).whole + n))) := ⟨_, Eq.refl _⟩
      obtain ⟨Ly, hLy⟩ : ∃ l, Hid (l = st Lx x 4 ((gt Lx x).whole + n)) := ⟨_, Eq.refl _⟩
      have HY : Hid (Things X1 b k g cap Ly ∧ Touch (· = g) w X1 ∧ Ly.length = L.length ∧ gt Ly = moreW A (dn ++ [x]) n) := by
        rw [hX1.out, hLy.out, ← egx.1]
        exact ⟨HI.out.1.st x hxL 4 (by omega) _ (.inr (by omega)), HI.out.2.1.cellG _ _, by rw [st_len]; exact hlx, moreW_st hxL HI.out.2.2.2 hnd⟩
      obtain ⟨y, hy⟩ : ∃ y, Hid (y = rem.headD 0) := ⟨_, Eq.refl _⟩
      have hup : (gt L x).up = y := by
        have hw := HWy.out
        rw [HD.out] at hw
        rw [hy.out]
        exact hw.at
      have hyL : (Ly.length) = L.length := HY.out.2.2.1
      have t2 := HY.out.1.th x (by omega)
      rw [← gt_of (by omega)] at t2
      have d0 := t2.c0
      have e0 : (gt Ly x).up = y := by
        rw [HY.out.2.2.2]
        unfold moreW
        rw [if_pos (by simp)]
        show (A x).up = y
        rw [HA.out.1]
        exact hup
      rw [e0] at d0
      have hc2 := HY.out.1.cell
      rw [hyL] at hc2
      have lx : (x : Int) < (L.length : Int) := by omega
      have lx0 : (0 : Int) ≤ (x : Int) := by omega
      have xx : ((x : Int) != 0) = true := by simp [hx0]
      have HD2 : Hid (i :: P = (dn ++ [x]) ++ rem) := by rw [List.append_assoc]; exact HD.out
      have hgk : gk = rem.length + 1 := HR.out.symm
      generalize (gt L x).whole = tw at *
      clear t1 t2 e0 hup egx hlx hyL hLy HI HX hx0 hnd hmem hxl hxL HD HR
      go_upto_region 2 with fail
      rw [← hX1.out]
      clear hX1 c4 z4 hc
      go_wp2_with fail
      go_roundg rem.length
      case measure => omega
      case rel => exact ⟨dn ++ [x], rem, y, Ly, HD2.out, Eq.refl _, rfl, hy.out, HY.out⟩
end Go.Proofs.Ytcolbgbmnmkogab
