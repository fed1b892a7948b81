/- Trees whose nodes are things of an array: one made longer. -/
import Derived.Test.YtdnhoicfolkbnaaGreatPart2
import Derived.Test.YtdnhoicfolkbnaaGreatSeqR4
namespace Go.Proofs.YtdnhoicfolkbnaaGreat
set_option linter.unusedVariables false
set_option linter.unusedSimpArgs false

/-- The ones above, the nearest first. -/
def ups : List Fr → List Nat
  | [] => []
  | .L u _ :: c => u :: ups c
  | .R _ u :: c => u :: ups c
theorem ups_sub : ∀ {c : List Fr} {x : Nat}, x ∈ ups c → x ∈ cl c ++ cr c
  | .L u r :: c, x, h => by
    rcases List.mem_cons.1 h with rfl | h
    · simp [cl, cr]
    · have := ups_sub h
      simp only [cl, cr, List.mem_append, List.mem_cons] at this ⊢
      rcases this with h | h <;> simp [h]
  | .R l u :: c, x, h => by
    rcases List.mem_cons.1 h with rfl | h
    · simp [cl, cr]
    · have := ups_sub h
      simp only [cl, cr, List.mem_append, List.mem_cons] at this ⊢
      rcases this with h | h <;> simp [h]
/-- The wholes of these by n more. -/
def moreW (A : Nat → Th) (P : List Nat) (n : Int) : Nat → Th := fun j => if j ∈ P then { A j with whole := (A j).whole + n } else A j
/-- One by n longer. -/
def moreL (A : Nat → Th) (i : Nat) (n : Int) : Nat → Th := fun j => if j = i then { A i with long := (A i).long + n } else A j
def growA (A : Nat → Th) (i : Nat) (P : List Nat) (n : Int) : Nat → Th := moreW (moreL A i n) P n
theorem RepC.grow {A B : Nat → Th} {n : Int} : ∀ {c : List Fr} {i : Nat} {s : Int}, RepC A c i s → (cl c ++ cr c).Nodup → (∀ j ∈ ups c, B j = { A j with whole := (A j).whole + n }) → (∀ j ∈ cl c ++ cr c, j ∉ ups c → B j = A j) → RepC B c i (s + n)
  | [], _, _, _, _, _, _ => trivial
  | .L u r :: c, i, s, ⟨h1, h2, h3, h4, h5, h6⟩, hn, hu, ho => by
    have hn' : (cl c ++ (u :: r.flat ++ cr c)).Nodup := by simpa [cl, cr] using hn
    have hnd := List.nodup_append.1 hn'
    have hnd2 := List.nodup_append.1 hnd.2.1
    have hcc : (cl c ++ cr c).Nodup := List.nodup_append.2 ⟨hnd.1, hnd2.2.1, fun x hx y hy => hnd.2.2 x hx y (by simp [hy])⟩
    have uc : u ∉ cl c ++ cr c := fun h => by
      rcases List.mem_append.1 h with h | h
      · exact hnd.2.2 u h u (by simp) rfl
      · exact hnd2.2.2 u (by simp) u h rfl
    have rc : ∀ x ∈ r.flat, x ∉ cl c ++ cr c := fun x hx h => by
      rcases List.mem_append.1 h with h | h
      · exact hnd.2.2 x h x (by simp [hx]) rfl
      · exact hnd2.2.2 x (by simp [hx]) x h rfl
    have ur : u ∉ r.flat := (List.nodup_cons.1 hnd2.1).1
    have bu := hu u (by simp [ups])
    have br : ∀ x ∈ r.flat, A x = B x := fun x hx => (ho x (by simp [cl, cr, hx]) (fun h => by
      rcases List.mem_cons.1 h with rfl | h
      · exact ur hx
      · exact rc x hx (ups_sub h))).symm
    have s2 := Tr.sum_congr (A := A) (B := B) (t := r) fun x hx => by rw [br x hx]
    refine ⟨by rw [bu]; exact h1, by rw [bu]; exact h2, by rw [bu]; exact h3, ?_, Rep.congr br h5, ?_⟩
    · rw [bu, ← s2]
      show (A u).whole + n = s + n + (A u).long + r.sum A
      rw [h4]
      omega
    · rw [bu, ← s2, show s + n + (A u).long + r.sum A = s + (A u).long + r.sum A + n from by omega]
      refine RepC.grow h6 hcc (fun j hj => hu j (by simp [ups, hj])) (fun j hj hj' => ho j ?_ ?_)
      · simp only [cl, cr, List.mem_append, List.mem_cons] at hj ⊢
        rcases hj with h | h <;> simp [h]
      · intro h
        rcases List.mem_cons.1 h with rfl | h
        · exact uc hj
        · exact hj' h
  | .R l u :: c, i, s, ⟨h1, h2, h3, h4, h5, h6⟩, hn, hu, ho => by
    have hn' : (cl c ++ (l.flat ++ [u]) ++ cr c).Nodup := by simpa [cl, cr] using hn
    have hnd := List.nodup_append.1 hn'
    have hnd1 := List.nodup_append.1 hnd.1
    have hnd2 := List.nodup_append.1 hnd1.2.1
    have hcc : (cl c ++ cr c).Nodup := List.nodup_append.2 ⟨hnd1.1, hnd.2.1, fun x hx y hy => hnd.2.2 x (by simp [hx]) y hy⟩
    have uc : u ∉ cl c ++ cr c := fun h => by
      rcases List.mem_append.1 h with h | h
      · exact hnd1.2.2 u h u (by simp) rfl
      · exact hnd.2.2 u (by simp) u h rfl
    have rc : ∀ x ∈ l.flat, x ∉ cl c ++ cr c := fun x hx h => by
      rcases List.mem_append.1 h with h | h
      · exact hnd1.2.2 x h x (by simp [hx]) rfl
      · exact hnd.2.2 x (by simp [hx]) x h rfl
    have ul : u ∉ l.flat := fun h => hnd2.2.2 u h u (by simp) rfl
    have bu := hu u (by simp [ups])
    have br : ∀ x ∈ l.flat, A x = B x := fun x hx => (ho x (by simp [cl, cr, hx]) (fun h => by
      rcases List.mem_cons.1 h with rfl | h
      · exact ul hx
      · exact rc x hx (ups_sub h))).symm
    have s2 := Tr.sum_congr (A := A) (B := B) (t := l) fun x hx => by rw [br x hx]
    refine ⟨by rw [bu]; exact h1, by rw [bu]; exact h2, by rw [bu]; exact h3, ?_, Rep.congr br h5, ?_⟩
    · rw [bu, ← s2]
      show (A u).whole + n = l.sum A + (A u).long + (s + n)
      rw [h4]
      omega
    · rw [bu, ← s2, show l.sum A + (A u).long + (s + n) = l.sum A + (A u).long + s + n from by omega]
      refine RepC.grow h6 hcc (fun j hj => hu j (by simp [ups, hj])) (fun j hj hj' => ho j ?_ ?_)
      · simp only [cl, cr, List.mem_append, List.mem_cons] at hj ⊢
        rcases hj with h | h <;> simp [h]
      · intro h
        rcases List.mem_cons.1 h with rfl | h
        · exact uc hj
        · exact hj' h
/-- The row with one thing longer by n: the same tree. -/
theorem grow_rep {A : Nat → Th} {c : List Fr} {a b : Tr} {i : Nat} {n : Int} (H : Rep A 0 (plug c (.node a i b))) (N : (plug c (.node a i b)).flat.Nodup) : Rep (growA A i (i :: ups c) n) 0 (plug c (.node a i b)) := by
  rw [flat_plug] at N
  obtain ⟨hC, i1, i2, i3, i4, i5, i6⟩ := (rep_plug A c (.node a i b)).1 H
  have n1 : (cl c ++ (a.flat ++ i :: b.flat) ++ cr c).Nodup := N
  have hnd := List.nodup_append.1 n1
  have hnd1 := List.nodup_append.1 hnd.1
  have hnd2 := List.nodup_append.1 hnd1.2.1
  have hnd3 := List.nodup_cons.1 hnd2.2.1
  have hcc : (cl c ++ cr c).Nodup := List.nodup_append.2 ⟨hnd1.1, hnd.2.1, fun x hx y hy => hnd.2.2 x (by simp [hx]) y hy⟩
  have hin : ∀ x ∈ a.flat ++ i :: b.flat, x ∉ cl c ++ cr c := fun x hx h => by
    rcases List.mem_append.1 h with h | h
    · exact hnd1.2.2 x h x hx rfl
    · exact hnd.2.2 x (List.mem_append.2 (.inr hx)) x h rfl
  have ic : i ∉ cl c ++ cr c := hin i (by simp)
  have ia : i ∉ a.flat := fun h => hnd2.2.2 i h i (by simp) rfl
  have ib : i ∉ b.flat := hnd3.1
  have gi : growA A i (i :: ups c) n i = { A i with long := (A i).long + n, whole := (A i).whole + n } := by simp [growA, moreW, moreL]
  have go : ∀ x, x ≠ i → x ∉ ups c → growA A i (i :: ups c) n x = A x := fun x h1 h2 => by simp [growA, moreW, moreL, h1, h2]
  have gu : ∀ x ∈ ups c, growA A i (i :: ups c) n x = { A x with whole := (A x).whole + n } := fun x hx => by
    have : x ≠ i := fun e => ic (e ▸ ups_sub hx)
    simp [growA, moreW, moreL, hx, this]
  have ga : ∀ x ∈ a.flat, A x = growA A i (i :: ups c) n x := fun x hx => (go x (fun e => ia (e ▸ hx)) (fun h => hin x (by simp [hx]) (ups_sub h))).symm
  have gb : ∀ x ∈ b.flat, A x = growA A i (i :: ups c) n x := fun x hx => (go x (fun e => ib (e ▸ hx)) (fun h => hin x (by simp [hx]) (ups_sub h))).symm
  have sa := Tr.sum_congr (A := A) (B := growA A i (i :: ups c) n) (t := a) fun x hx => by rw [← ga x hx]
  have sb := Tr.sum_congr (A := A) (B := growA A i (i :: ups c) n) (t := b) fun x hx => by rw [← gb x hx]
  refine (rep_plug _ c _).2 ⟨?_, ⟨by rw [gi]; exact i1, by rw [gi]; exact i2, by rw [gi]; exact i3, ?_, Rep.congr ga i5, Rep.congr gb i6⟩⟩
  · have e : (Tr.node a i b).sum (growA A i (i :: ups c) n) = (Tr.node a i b).sum A + n := by
      simp only [Tr.sum, ← sa, ← sb, gi]
      omega
    rw [e]
    exact hC.grow hcc gu (fun x hx hx' => go x (fun e => ic (e ▸ hx)) hx')
  · rw [gi, ← sa, ← sb]
    show (A i).whole + n = a.sum A + ((A i).long + n) + b.sum A
    rw [i4]
    omega
end Go.Proofs.YtdnhoicfolkbnaaGreat

/- Package seq's row: grow, first. -/
namespace Go.Proofs.YtdnhoicfolkbnaaGreat
open Go.RowKit
set_option linter.unusedVariables false
set_option linter.unusedSimpArgs false
set_option maxRecDepth 100000

/-- A way up in the array: each one's up is the next, the last one's none. -/
def WayUp (A : Nat → Th) : List Nat → Prop
  | [] => True
  | [x] => (A x).up = 0
  | x :: y :: l => (A x).up = y ∧ WayUp A (y :: l)
theorem WayUp.at {A : Nat → Th} {x : Nat} {rem : List Nat} : ∀ {dn : List Nat}, WayUp A (dn ++ x :: rem) → (A x).up = rem.headD 0
  | [], h => by
    cases rem with
    | nil => exact h
    | cons z rem => exact h.1
  | [d], h => WayUp.at (dn := []) h.2
  | d :: d' :: dn, h => WayUp.at (dn := d' :: dn) h.2
theorem RepC.way {A : Nat → Th} : ∀ {c : List Fr} {i : Nat} {s : Int}, RepC A c i s → (A i).up = par c → WayUp A (i :: ups c)
  | [], _, _, _, h => h
  | .L u r :: c, i, s, ⟨h1, _, _, _, _, h6⟩, h => ⟨h, RepC.way h6 h1⟩
  | .R l u :: c, i, s, ⟨h1, _, _, _, _, h6⟩, h => ⟨h, RepC.way h6 h1⟩
theorem st_st {L : List Th} {i f : Nat} {y : Int} (h : i < L.length) : gt (st L i f y) = upd (gt L) i f y := by
  funext j
  rw [gt_st h]
  rfl
theorem moreL_st {L : List Th} {i : Nat} {n : Int} (h : i < L.length) : gt (st L i 3 ((gt L i).long + n)) = moreL (gt L) i n := by
  rw [st_st h]
  rfl
theorem moreW_st {L : List Th} {A : Nat → Th} {P : List Nat} {x : Nat} {n : Int} (h : x < L.length) (e : gt L = moreW A P n) (hx : x ∉ P) : gt (st L x 4 ((gt L x).whole + n)) = moreW A (P ++ [x]) n := by
  rw [st_st h, e]
  funext j
  unfold upd moreW
  by_cases hj : j = x
  · subst hj
    simp [hx, Th.put]
  · simp [hj]
set_option maxHeartbeats 8000000 in
theorem grow_any {w : World} {b k g cap : Nat} {L : List Th} (h : Things w b k g cap L) (i : Nat) (P : List Nat) (n : Int) (hi : i < L.length) (hi0 : i ≠ 0) (hP : ∀ x ∈ i :: P, x < L.length ∧ x ≠ 0) (hN : (i :: P).Nodup) (hW : WayUp (gt L) (i :: P))
    (w0 : ∀ x ∈ i :: P, IntKind.i64.wrap ((gt L x).whole + n) = (gt L x).whole + n) (w1 : IntKind.i64.wrap ((gt L i).long + n) = (gt L i).long + n) :
    Calls Tryz.prog 99 #[rP b k, iV (i : Int), iV n] w fun e w' => e = .returned (.tuple #[]) ∧ (∃ L', Things w' b k g cap L' ∧ L'.length = L.length ∧ gt L' = growA (gt L) i (i :: P) n) ∧ Touch (· = g) w w' := by
  have hc := h.cell
  have t1 := h.th i hi
  rw [← gt_of hi] at t1
  have c3 := t1.c3
  have z3 : w.frozen? ⟨g, i * 5 + 3, none⟩ = false := h.free _
  have li : (i : Int) < (L.length : Int) := by omega
  have li0 : (0 : Int) ≤ (i : Int) := by omega
  obtain ⟨W1, hW1⟩ : ∃ W, Hid (W = w.setCell ⟨g, i * 5 + 3, none⟩ (iV ((gt L i).long + n))) := ⟨_, Eq.refl _⟩
  have H1 : Hid (Things W1 b k g cap (st L i 3 ((gt L i).long + n)) ∧ Touch (· = g) w W1) := by
    rw [hW1.out]
    exact ⟨h.st i hi 3 (by omega) _ (.inr (by omega)), (Touch.refl _ _).cellG _ _⟩
  obtain ⟨L1, hL1⟩ : ∃ l, Hid (l = st L i 3 ((gt L i).long + n)) := ⟨_, Eq.refl _⟩
  have HL1 : Hid (L1.length = L.length ∧ gt L1 = moreL (gt L) i n) := by rw [hL1.out]; exact ⟨st_len _ _ _ _, moreL_st hi⟩
  rw [← hL1.out] at H1
  have HP : Hid (∀ x ∈ i :: P, x < L.length ∧ x ≠ 0) := hP
  have HNd : Hid (i :: P).Nodup := hN
  have HWy : Hid (WayUp (gt L) (i :: P)) := hW
  have HW0 : Hid (∀ x ∈ i :: P, IntKind.i64.wrap ((gt L x).whole + n) = (gt L x).whole + n) := w0
  obtain ⟨A, hA⟩ : ∃ A, Hid (A = moreL (gt L) i n) := ⟨_, Eq.refl _⟩
  have HA : Hid ((∀ x, (A x).up = (gt L x).up) ∧ ∀ x, (A x).whole = (gt L x).whole) := by
    rw [hA.out]
    exact ⟨fun x => by unfold moreL; split <;> (try subst_vars) <;> rfl, fun x => by unfold moreL; split <;> (try subst_vars) <;> rfl⟩
  generalize (gt L i).long = tl at *
  clear h t1 hP hN hW w0 hL1
  go_enter Tryz.func99, Tryz.ntmps99
  go_wp2_with fail
  rw [← hW1.out]
  clear hW1 hc c3 z3
  go_loopg [1] (P.length + 1) (fun gk s1 wx => ∃ (dn rem : List Nat) (x : Nat) (Lx : List Th), Hid (i :: P = dn ++ rem) ∧ Hid (rem.length = gk) ∧ s1 = iV (x : Int) ∧ Hid (x = rem.headD 0) ∧ Hid (Things wx b k g cap Lx ∧ Touch (· = g) w wx ∧ Lx.length = L.length ∧ gt Lx = moreW A dn n))
  case atStart => exact ⟨[], i :: P, i, L1, Eq.refl _, Eq.refl _, rfl, Eq.refl _, H1.out.1, H1.out.2, HL1.out.1, by rw [HL1.out.2, ← hA.out]; funext j; simp [moreW]⟩
  case round =>
    obtain ⟨dn, rem, x, Lx, HD, HR, rfl, HX, HI⟩ := hrel
    obtain ⟨X0, hX0⟩ : ∃ X, X = wr := ⟨_, rfl⟩
    subst hX0
    cases rem with
    | nil =>
      have hx : x = 0 := HX.out
      subst hx
      have HF : Hid (gt Lx = growA (gt L) i (i :: P) n) := by
        have := HD.out
        rw [List.append_nil] at this
        rw [HI.out.2.2.2, ← this, hA.out]
        exact Eq.refl _
      go_wp2_with fail
      go_end0
      exact ⟨rfl, ⟨Lx, HI.out.1, HI.out.2.2.1, HF.out⟩, HI.out.2.1⟩
    | cons y rem =>
      have hx : x = y := HX.out
      subst hx
      have hmem : x ∈ i :: P := by rw [HD.out]; simp
      have hnd : x ∉ dn := by
        have := HNd.out
        rw [HD.out] at this
        intro h'
        exact (List.nodup_append.1 this).2.2 x h' x (by simp) rfl
      obtain ⟨hxl, hx0⟩ := HP.out x hmem
      have hlx : Lx.length = L.length := HI.out.2.2.1
      have egx : (gt Lx x).whole = (gt L x).whole ∧ (gt Lx x).up = (gt L x).up := by
        rw [HI.out.2.2.2]
        unfold moreW
        rw [if_neg hnd]
        exact ⟨HA.out.2 x, HA.out.1 x⟩
      have hxL : x < Lx.length := by omega
      have t1 := HI.out.1.th x hxL
      rw [← gt_of hxL] at t1
      have c4 := t1.c4
      rw [egx.1] at c4
      have hc := HI.out.1.cell
      rw [hlx] at hc
      have z4 : X0.frozen? ⟨g, x * 5 + 4, none⟩ = false := HI.out.1.free _
      have w4 := HW0.out x hmem
      obtain ⟨X1, hX1⟩ : ∃ W, Hid (W = X0.setCell ⟨g, x * 5 + 4, none⟩ (iV ((gt L x).whole + n))) := ⟨_, Eq.refl _⟩
      obtain ⟨Ly, hLy⟩ : ∃ l, Hid (l = st Lx x 4 ((gt Lx x).whole + n)) := ⟨_, Eq.refl _⟩
      have HY : Hid (Things X1 b k g cap Ly ∧ Touch (· = g) w X1 ∧ Ly.length = L.length ∧ gt Ly = moreW A (dn ++ [x]) n) := by
        rw [hX1.out, hLy.out, ← egx.1]
        exact ⟨HI.out.1.st x hxL 4 (by omega) _ (.inr (by omega)), HI.out.2.1.cellG _ _, by rw [st_len]; exact hlx, moreW_st hxL HI.out.2.2.2 hnd⟩
      obtain ⟨y, hy⟩ : ∃ y, Hid (y = rem.headD 0) := ⟨_, Eq.refl _⟩
      have hup : (gt L x).up = y := by
        have hw := HWy.out
        rw [HD.out] at hw
        rw [hy.out]
        exact hw.at
      have hyL : (Ly.length) = L.length := HY.out.2.2.1
      have t2 := HY.out.1.th x (by omega)
      rw [← gt_of (by omega)] at t2
      have d0 := t2.c0
      have e0 : (gt Ly x).up = y := by
        rw [HY.out.2.2.2]
        unfold moreW
        rw [if_pos (by simp)]
        show (A x).up = y
        rw [HA.out.1]
        exact hup
      rw [e0] at d0
      have hc2 := HY.out.1.cell
      rw [hyL] at hc2
      have lx : (x : Int) < (L.length : Int) := by omega
      have lx0 : (0 : Int) ≤ (x : Int) := by omega
      have xx : ((x : Int) != 0) = true := by simp [hx0]
      have HD2 : Hid (i :: P = (dn ++ [x]) ++ rem) := by rw [List.append_assoc]; exact HD.out
      have hgk : gk = rem.length + 1 := HR.out.symm
      generalize (gt L x).whole = tw at *
      clear t1 t2 e0 hup egx hlx hyL hLy HI HX hx0 hnd hmem hxl hxL HD HR
      go_upto_region 2 with fail
      rw [← hX1.out]
      clear hX1 c4 z4 hc
      go_wp2_with fail
      go_roundg rem.length
      case measure => omega
      case rel => exact ⟨dn ++ [x], rem, y, Ly, HD2.out, Eq.refl _, rfl, hy.out, HY.out⟩
end Go.Proofs.YtdnhoicfolkbnaaGreat

/- Package seq's row: first, at. -/
namespace Go.Proofs.YtdnhoicfolkbnaaGreat
open Go.RowKit
set_option linter.unusedVariables false
set_option linter.unusedSimpArgs false
set_option maxRecDepth 100000

def Tr.size : Tr → Nat
  | .nil => 0
  | .node l _ r => l.size + 1 + r.size
/-- The foremost. -/
def Tr.first : Tr → Nat
  | .nil => 0
  | .node .nil i _ => i
  | .node l _ _ => l.first
/-- Every label is one of an array of n things, and none is 0. -/
def Tr.Fits (t : Tr) (n : Nat) : Prop := ∀ x ∈ t.flat, x < n ∧ x ≠ 0
theorem Tr.Fits.node {l r : Tr} {i n : Nat} (h : (Tr.node l i r).Fits n) : l.Fits n ∧ (i < n ∧ i ≠ 0) ∧ r.Fits n := ⟨fun x hx => h x (by simp [Tr.flat, hx]), h i (by simp [Tr.flat]), fun x hx => h x (by simp [Tr.flat, hx])⟩
theorem Tr.Fits.root {t : Tr} {n : Nat} (h : t.Fits n) (hn : 0 < n) : t.root < n := by
  cases t with
  | nil => exact hn
  | node l i r => exact h.node.2.1.1
set_option maxHeartbeats 4000000 in
theorem first_any {w : World} {b k g cap : Nat} {L : List Th} (h : Things w b k g cap L) (t : Tr) (p : Nat) (hR : Rep (gt L) p t) (hF : t.Fits L.length) (hn : t ≠ .nil) : Calls Tryz.prog 152 #[rP b k, iV (t.root : Int)] w fun e w' => e = .returned (iV (t.first : Int)) ∧ w' = w := by
  have hc := h.cell
  have HT : Hid (Things w b k g cap L) := h
  have HR : Hid (Rep (gt L) p t ∧ t.Fits L.length ∧ t ≠ .nil) := ⟨hR, hF, hn⟩
  obtain ⟨i, hi⟩ : ∃ i, Hid (i = t.root) := ⟨_, Eq.refl _⟩
  obtain ⟨f, hf⟩ : ∃ f, Hid (f = t.first) := ⟨_, Eq.refl _⟩
  rw [← hi.out, ← hf.out]
  clear h hR hF hn
  go_enter Tryz.func152, Tryz.ntmps152
  go_wp2_with fail
  go_loopg [1] t.size (fun gk s1 wx => ∃ (x p : Nat) (u : Tr), s1 = iV (x : Int) ∧ Hid (w = wx) ∧ Hid (u.size = gk ∧ x = u.root ∧ f = u.first ∧ Rep (gt L) p u ∧ u.Fits L.length ∧ u ≠ .nil))
  case atStart => exact ⟨i, p, t, rfl, Eq.refl _, rfl, hi.out, hf.out, HR.out⟩
  case round =>
    obtain ⟨x, q, u, rfl, hw, HU⟩ := hrel
    have hw := hw.out
    subst hw
    obtain ⟨hs, hx, hfu, hRu, hFu, hnu⟩ := HU.out
    cases u with
    | nil => exact absurd rfl hnu
    | node l y r =>
      have hxy : x = y := hx
      subst hxy
      obtain ⟨hl, hy, hr⟩ := hFu.node
      have t1 := HT.out.th x hy.1
      rw [← gt_of hy.1] at t1
      have c1 := t1.c1
      rw [hRu.2.1] at c1
      have lx : (x : Int) < (L.length : Int) := by omega
      have lx0 : (0 : Int) ≤ (x : Int) := by omega
      cases l with
      | nil =>
        have c1' : w.cell? ⟨g, x * 5 + 1, none⟩ = some (iV 0) := c1
        have hfx : f = x := hfu
        subst hfx
        clear t1 c1 HU hs hfu hRu hFu hnu hl hy hr hx
        go_wp2_with fail
        go_ret
        exact ⟨rfl, rfl⟩
      | node l2 z r2 =>
        have c1' : w.cell? ⟨g, x * 5 + 1, none⟩ = some (iV (z : Int)) := c1
        have hz0 : z ≠ 0 := hl.node.2.1.2
        have zz : ((z : Int) != 0) = true := by simp [hz0]
        have HU2 : Hid (f = (Tr.node l2 z r2).first ∧ Rep (gt L) x (.node l2 z r2) ∧ (Tr.node l2 z r2).Fits L.length) := ⟨hfu, hRu.2.2.2.2.1, hl⟩
        have hsz : (Tr.node l2 z r2).size < gk := by
          rw [← hs]
          simp only [Tr.size]
          omega
        obtain ⟨m, hm⟩ : ∃ m, m = (Tr.node l2 z r2).size := ⟨_, rfl⟩
        rw [← hm] at hsz
        have HM : Hid ((Tr.node l2 z r2).size = m) := hm.symm
        clear t1 c1 HU hs hfu hRu hFu hnu hl hy hr hx hm hz0
        go_wp2_with fail
        go_roundg m
        case measure => omega
        case rel => exact ⟨z, x, .node l2 z r2, rfl, Eq.refl _, HM.out, rfl, HU2.out.1, HU2.out.2.1, HU2.out.2.2, by simp⟩
end Go.Proofs.YtdnhoicfolkbnaaGreat

/- Package seq's row: at. -/
namespace Go.Proofs.YtdnhoicfolkbnaaGreat
open Go.RowKit
set_option linter.unusedVariables false
set_option linter.unusedSimpArgs false
set_option maxRecDepth 100000

/-- The thing over a place, and how much of it is ahead. -/
def atT (A : Nat → Th) : Tr → Int → Nat × Int
  | .nil, _ => (0, 0)
  | .node l i r, p => if p - l.sum A < 0 then atT A l p else if p - l.sum A < (A i).long then (i, p - l.sum A) else atT A r (p - l.sum A - (A i).long)
theorem atT_node (A : Nat → Th) (l : Tr) (i : Nat) (r : Tr) (p : Int) : atT A (.node l i r) p = if p - l.sum A < 0 then atT A l p else if p - l.sum A < (A i).long then (i, p - l.sum A) else atT A r (p - l.sum A - (A i).long) := rfl
set_option maxHeartbeats 8000000 in
theorem at_any {w : World} {b k g cap : Nat} {L : List Th} (h : Things w b k g cap L) (t : Tr) (hR : Rep (gt L) 0 t) (hF : t.Fits L.length) (h0 : 0 < L.length) (hd : (gt L 0).d1 = t.root) (hw0 : (gt L 0).whole = 0) (hT : Tame (gt L)) (p : Int) (hp : -4611686018427387904 ≤ p ∧ p ≤ 4611686018427387904) :
    Calls Tryz.prog 128 #[rP b k, iV p] w fun e w' => e = .returned (.tuple #[iV ((atT (gt L) t p).1 : Int), iV (atT (gt L) t p).2]) ∧ Touch (fun _ => False) w w' := by
  have HTop : Hid (Calls Tryz.prog 107 #[rP b k] w fun e w' => e = .returned (iV (t.root : Int)) ∧ w' = w) := by
    have := top_any h h0
    rw [← gt_of h0, hd] at this
    exact this
  have HK : Hid (∀ W, Touch (fun _ => False) w W → Things W b k g cap L) := fun W t => h.keep t id id
  have HR : Hid (Rep (gt L) 0 t ∧ t.Fits L.length) := ⟨hR, hF⟩
  have HW0 : Hid ((gt L 0).whole = 0 ∧ 0 < L.length) := ⟨hw0, h0⟩
  have HTm : Hid (Tame (gt L)) := hT
  obtain ⟨i, hi⟩ : ∃ i, Hid (i = t.root) := ⟨_, Eq.refl _⟩
  obtain ⟨r1, hr1⟩ : ∃ r, Hid (r = (atT (gt L) t p).1) := ⟨_, Eq.refl _⟩
  obtain ⟨r2, hr2⟩ : ∃ r, Hid (r = (atT (gt L) t p).2) := ⟨_, Eq.refl _⟩
  rw [← hi.out] at HTop
  rw [← hr1.out, ← hr2.out]
  clear h hR hF h0 hd hw0 hT
  go_enter Tryz.func128, Tryz.ntmps128
  go_wp2_with fail
  refine HTop.out.mono ?_
  rintro e w' ⟨rfl, hw'⟩
  rw [hw']
  clear hw' HTop
  go_wp2_with fail
  go_loopg [1, 4] t.size (fun gk s1 s4 wx => ∃ (x q : Nat) (pl : Int) (u : Tr), s1 = iV pl ∧ s4 = iV (x : Int) ∧ (-4611686018427387904 ≤ pl ∧ pl ≤ 4611686018427387904) ∧ Hid (Touch (fun _ => False) w wx) ∧ Hid (u.size = gk ∧ x = u.root ∧ Rep (gt L) q u ∧ u.Fits L.length ∧ r1 = (atT (gt L) u pl).1 ∧ r2 = (atT (gt L) u pl).2))
  case atStart => exact ⟨i, 0, p, t, rfl, rfl, hp, Touch.refl _ _, rfl, hi.out, HR.out.1, HR.out.2, hr1.out, hr2.out⟩
  case round =>
    obtain ⟨x, q, pl, u, rfl, rfl, hpl, HT, HU⟩ := hrel
    obtain ⟨X0, hX0⟩ : ∃ X, X = wr := ⟨_, rfl⟩
    subst hX0
    obtain ⟨hs, hx, hRu, hFu, hu1, hu2⟩ := HU.out
    cases u with
    | nil =>
      have hx0 : x = 0 := hx
      have h1 : r1 = 0 := hu1
      have h2 : r2 = 0 := hu2
      subst hx0 h1 h2
      clear HU hs hRu hFu hu1 hu2 hx
      go_wp2_with fail
      go_ret2
      exact ⟨rfl, HT.out⟩
    | node l y r =>
      have hxy : x = y := hx
      subst hxy
      obtain ⟨hl, hy, hr⟩ := hFu.node
      have hTh := HK.out X0 HT.out
      have t1 := hTh.th x hy.1
      rw [← gt_of hy.1] at t1
      have q0 := t1.c0
      have q1 := t1.c1
      have q2 := t1.c2
      have q3 := t1.c3
      have q4 := t1.c4
      have hc := hTh.cell
      have lx : (x : Int) < (L.length : Int) := by omega
      have lx0 : (0 : Int) ≤ (x : Int) := by omega
      have xx : ((x : Int) != 0) = true := by simp [hy.2]
      have hrl := hl.root HW0.out.2
      have hrr := hr.root HW0.out.2
      have ll : (l.root : Int) < (L.length : Int) := by omega
      have ll0 : (0 : Int) ≤ (l.root : Int) := by omega
      have hsl : (gt L l.root).whole = l.sum (gt L) := hRu.2.2.2.2.1.whole HW0.out.1
      have tm := HTm.out l.root
      have tm2 := HTm.out x
      rw [hsl] at tm
      rw [hRu.2.1] at q1
      rw [hRu.2.2.1] at q2
      have HSl : Hid (∀ W, Touch (fun _ => False) w W → W.cell? ⟨g, l.root * 5 + 4, none⟩ = some (iV (l.sum (gt L))) ∧ W.cell? ⟨b, k, none⟩ = some (.slice (some ⟨g, 0, none⟩) L.length cap)) := fun W t => by
        have h9 := (HK.out W t).th l.root hrl
        rw [← gt_of hrl] at h9
        have h8 := h9.c4
        rw [hsl] at h8
        exact ⟨h8, (HK.out W t).cell⟩
      obtain ⟨a, ha⟩ : ∃ a, Hid (a = l.root) := ⟨_, Eq.refl _⟩
      obtain ⟨c, hcr⟩ : ∃ c, Hid (c = r.root) := ⟨_, Eq.refl _⟩
      obtain ⟨sm, hsm⟩ : ∃ sm, Hid (sm = l.sum (gt L)) := ⟨_, Eq.refl _⟩
      obtain ⟨lg, hlg⟩ : ∃ lg, Hid (lg = (gt L x).long) := ⟨_, Eq.refl _⟩
      obtain ⟨up, hup⟩ : ∃ up, Hid (up = (gt L x).up) := ⟨_, Eq.refl _⟩
      obtain ⟨wh, hwh⟩ : ∃ wh, Hid (wh = (gt L x).whole) := ⟨_, Eq.refl _⟩
      rw [← hup.out] at q0
      rw [← ha.out] at q1 ll ll0 HSl
      rw [← hcr.out] at q2
      rw [← hlg.out] at q3 tm2
      rw [← hwh.out] at q4
      rw [← hsm.out] at tm HSl
      have HE : Hid ((pl - sm < 0 → r1 = (atT (gt L) l pl).1 ∧ r2 = (atT (gt L) l pl).2) ∧ (¬ pl - sm < 0 → pl - sm < lg → r1 = x ∧ r2 = pl - sm) ∧ (¬ pl - sm < 0 → ¬ pl - sm < lg → r1 = (atT (gt L) r (pl - sm - lg)).1 ∧ r2 = (atT (gt L) r (pl - sm - lg)).2)) := by
        rw [hu1, hu2, hsm.out, hlg.out, atT_node]
        refine ⟨fun h => ?_, fun h h' => ?_, fun h h' => ?_⟩
        · rw [if_pos h]; exact ⟨rfl, rfl⟩
        · rw [if_neg h, if_pos h']; exact ⟨rfl, rfl⟩
        · rw [if_neg h, if_neg h']; exact ⟨rfl, rfl⟩
      have HU2 : Hid (l.size < gk ∧ r.size < gk ∧ Rep (gt L) x l ∧ Rep (gt L) x r ∧ l.Fits L.length ∧ r.Fits L.length) := by
        rw [← hs]
        simp only [Tr.size]
        exact ⟨by omega, by omega, hRu.2.2.2.2.1, hRu.2.2.2.2.2, hl, hr⟩
      have e1 : IntKind.i64.wrap (pl - sm) = pl - sm := by rw [IntKind.wrap_i64]; omega
      have e2 : IntKind.i64.wrap (pl - sm - lg) = pl - sm - lg := by rw [IntKind.wrap_i64]; omega
      have e3 : IntKind.i64.wrap (pl - sm + sm) = pl := by rw [IntKind.wrap_i64]; omega
      clear HU hs hRu hFu hu1 hu2 hx hl hy hr t1 hTh hrl hrr hsl hlg hup hwh hsm
      go_upto_region 4 with fail
      obtain ⟨X1, hX1⟩ : ∃ W, Hid (W = X0.alloc (.cells #[iV (up : Int), iV (a : Int), iV (c : Int), iV lg, iV wh] 146)) := ⟨_, Eq.refl _⟩
      have HT1 : Hid (Touch (fun _ => False) w X1 ∧ X1.heap[X0.heap.size]? = some (.cells #[iV (up : Int), iV (a : Int), iV (c : Int), iV lg, iV wh] 146)) := by rw [hX1.out]; exact ⟨HT.out.alloc _, heap_alloc_new _ _⟩
      first | rw [← hX1.out] | skip
      clear hX1 HT hc q0 q1 q2 q3 q4
      obtain ⟨B, hB⟩ : ∃ B, Hid (B = X0.heap.size) := ⟨_, Eq.refl _⟩
      rw [← hB.out] at HT1 ⊢
      have k1 : X1.cell? ⟨B, 1, none⟩ = some (iV (a : Int)) := by rw [cell_of_block HT1.out.2]; rfl
      have k2 : X1.cell? ⟨B, 2, none⟩ = some (iV (c : Int)) := by rw [cell_of_block HT1.out.2]; rfl
      have k3 : X1.cell? ⟨B, 3, none⟩ = some (iV lg) := by rw [cell_of_block HT1.out.2]; rfl
      obtain ⟨k4, k5⟩ := HSl.out X1 HT1.out.1
      go_quiet (fail)
      clear k1 k2 k3 k4 k5
      have HT2 : Hid (Touch (fun _ => False) w (X1.drewN nq) ∧ (X1.drewN nq).heap[B]? = some (.cells #[iV (up : Int), iV (a : Int), iV (c : Int), iV lg, iV wh] 146)) := ⟨⟨HT1.out.1.os, HT1.out.1.tape, HT1.out.1.output, HT1.out.1.size, HT1.out.1.block⟩, HT1.out.2⟩
      generalize X1.drewN nq = X2 at *
      clear HT1
      have k1 : X2.cell? ⟨B, 1, none⟩ = some (iV (a : Int)) := by rw [cell_of_block HT2.out.2]; rfl
      have k2 : X2.cell? ⟨B, 2, none⟩ = some (iV (c : Int)) := by rw [cell_of_block HT2.out.2]; rfl
      have k3 : X2.cell? ⟨B, 3, none⟩ = some (iV lg) := by rw [cell_of_block HT2.out.2]; rfl
      obtain ⟨k4, k5⟩ := HSl.out X2 HT2.out.1
      by_cases hA : pl - sm < 0
      · have HE1 : Hid (r1 = (atT (gt L) l pl).1 ∧ r2 = (atT (gt L) l pl).2) := HE.out.1 hA
        obtain ⟨m, hm⟩ : ∃ m, m = l.size := ⟨_, rfl⟩
        have hmg : m < gk := by rw [hm]; exact HU2.out.1
        have HM : Hid (l.size = m) := hm.symm
        clear HE hm
        go_upto_region 8 with fail
        go_quiet (fail)
        have HT3 : Hid (Touch (fun _ => False) w (X2.drewN nq) ∧ (X2.drewN nq).heap[B]? = some (.cells #[iV (up : Int), iV (a : Int), iV (c : Int), iV lg, iV wh] 146)) := ⟨⟨HT2.out.1.os, HT2.out.1.tape, HT2.out.1.output, HT2.out.1.size, HT2.out.1.block⟩, HT2.out.2⟩
        clear k1 k2 k3 k4 k5
        generalize X2.drewN nq = X3 at *
        clear HT2
        have k1 : X3.cell? ⟨B, 1, none⟩ = some (iV (a : Int)) := by rw [cell_of_block HT3.out.2]; rfl
        go_wp2_with fail
        go_roundg m
        case measure => omega
        case rel => exact ⟨a, x, pl, l, rfl, rfl, hpl, HT3.out.1, HM.out, ha.out, HU2.out.2.2.1, HU2.out.2.2.2.2.1, HE1.out⟩
      · have hA' : ¬ pl - sm < 0 := hA
        by_cases hB2 : pl - sm < lg
        · have HE1 : Hid (r1 = x ∧ r2 = pl - sm) := HE.out.2.1 hA hB2
          clear HE
          go_wp2_with fail
          go_ret2
          exact ⟨by rw [HE1.out.1, HE1.out.2]; rfl, HT2.out.1⟩
        · have HE1 : Hid (r1 = (atT (gt L) r (pl - sm - lg)).1 ∧ r2 = (atT (gt L) r (pl - sm - lg)).2) := HE.out.2.2 hA hB2
          obtain ⟨m, hm⟩ : ∃ m, m = r.size := ⟨_, rfl⟩
          have hmg : m < gk := by rw [hm]; exact HU2.out.2.1
          have HM : Hid (r.size = m) := hm.symm
          have hpl2 : -4611686018427387904 ≤ pl - sm - lg ∧ pl - sm - lg ≤ 4611686018427387904 := by omega
          clear HE hm
          go_wp2_with fail
          go_roundg m
          case measure => omega
          case rel => exact ⟨c, x, pl - sm - lg, r, rfl, rfl, hpl2, HT2.out.1, HM.out, hcr.out, HU2.out.2.2.2.1, HU2.out.2.2.2.2.2, HE1.out⟩
end Go.Proofs.YtdnhoicfolkbnaaGreat

/- Package seq's row: ahead. -/
namespace Go.Proofs.YtdnhoicfolkbnaaGreat
open Go.RowKit
set_option linter.unusedVariables false
set_option linter.unusedSimpArgs false
set_option maxRecDepth 100000

/-- How long all things ahead are, on the way up. -/
def sumC (A : Nat → Th) : List Fr → Int
  | [] => 0
  | .L _ _ :: c => sumC A c
  | .R l u :: c => sumC A c + (l.sum A + (A u).long)
theorem ThAt.range {w : World} {g i : Nat} {t : Th} (h : ThAt w g i t) : w.rangeAt g (i * 5) [iV t.up, iV t.d0, iV t.d1, iV t.long, iV t.whole] := by
  intro j v hv
  match j, hv with
  | 0, hv => have := h.c0; simpa using hv ▸ this
  | 1, hv => have := h.c1; simpa using hv ▸ this
  | 2, hv => have := h.c2; simpa using hv ▸ this
  | 3, hv => have := h.c3; simpa using hv ▸ this
  | 4, hv => have := h.c4; simpa using hv ▸ this
  | j + 5, hv => simp at hv
def SAhd (b k g cap n x u : Nat) (t : Th) (W : World) : Prop := W.cell? ⟨b, k, none⟩ = some (.slice (some ⟨g, 0, none⟩) n cap) ∧ W.cell? ⟨g, x * 5, none⟩ = some (iV (u : Int)) ∧ W.rangeAt g (u * 5) [iV t.up, iV t.d0, iV t.d1, iV t.long, iV t.whole]
/-- The labels of the way up are in the array. -/
def FitC (c : List Fr) (n : Nat) : Prop := ∀ x ∈ cl c ++ cr c, x < n ∧ x ≠ 0
theorem FitC.tail {f : Fr} {c : List Fr} {n : Nat} (h : FitC (f :: c) n) : FitC c n := fun x hx => h x (by
  cases f <;> (simp only [cl, cr, List.mem_append, List.mem_cons] at hx ⊢; rcases hx with hx | hx <;> simp [hx]))
theorem FitC.par {c : List Fr} {n : Nat} (h : FitC c n) (h0 : 0 < n) : par c < n := by
  cases c with
  | nil => exact h0
  | cons f c => exact (h _ (par_mem (by simp))).1
def topC : List Fr → Nat → Nat
  | [], i => i
  | .L u _ :: c, _ => topC c u
  | .R _ u :: c, _ => topC c u
theorem root_plug : ∀ (c : List Fr) (t : Tr), (plug c t).root = topC c t.root
  | [], _ => rfl
  | .L u r :: c, t => root_plug c (.node t u r)
  | .R l u :: c, t => root_plug c (.node l u t)
theorem Tr.sum_nn {A : Nat → Th} (h : ∀ j, 0 ≤ (A j).long) : ∀ t : Tr, 0 ≤ t.sum A
  | .nil => Int.le_refl _
  | .node l i r => by
    have h1 := Tr.sum_nn h l
    have h2 := Tr.sum_nn h r
    have h3 := h i
    simp only [Tr.sum]
    omega
theorem sumC_nn {A : Nat → Th} (h : ∀ j, 0 ≤ (A j).long) : ∀ c : List Fr, 0 ≤ sumC A c
  | [] => Int.le_refl _
  | .L u r :: c => sumC_nn h c
  | .R l u :: c => by
    have h1 := sumC_nn h c
    have h2 := Tr.sum_nn h l
    have h3 := h u
    simp only [sumC]
    omega
/-- Where ahead is, on its way up. -/
def InvA (A : Nat → Th) (n : Nat) (total : Int) (x : Nat) (c : List Fr) (acc : Int) : Prop :=
  0 ≤ acc ∧ acc ≤ total ∧ ((x = 0 ∧ c = [] ∧ acc = total) ∨ (x ≠ 0 ∧ x < n ∧ (A x).up = par c ∧ (∃ s, RepC A c x s) ∧ FitC c n ∧ (cl c ++ cr c).Nodup ∧ x ∉ cl c ++ cr c ∧ (A 0).d1 = topC c x ∧ acc + sumC A c = total))
theorem ahead_step {A : Nat → Th} {n : Nat} {total acc : Int} {x : Nat} {c : List Fr} (h : InvA A n total x c acc) (hx : x ≠ 0) (hn : 0 < n) (h0 : (A 0).d0 = 0 ∧ (A 0).long = 0 ∧ (A 0).whole = 0) (hT : ∀ j, 0 ≤ (A j).long) :
    x < n ∧ (A x).up < n ∧ (A (A x).up).d0 < n ∧ ∃ c' acc', InvA A n total (A x).up c' acc' ∧ (if (A x).up = 0 then 0 else c'.length + 1) = c.length ∧ ((sideA A x = 0 ∧ acc' = acc) ∨ (sideA A x = 1 ∧ acc' = acc + ((A (A (A x).up).d0).whole + (A (A x).up).long))) := by
  obtain ⟨p1, p2, h⟩ := h
  rcases h with ⟨h, _⟩ | ⟨_, hxn, hup, ⟨s, hC⟩, hF, hN, hxc, htop, hacc⟩
  · exact absurd h hx
  refine ⟨hxn, by rw [hup]; exact hF.par hn, ?_⟩
  cases c with
  | nil =>
    have e0 : (A x).up = 0 := hup
    have hs : sideA A x = 1 := by unfold sideA; rw [e0]; exact if_pos htop
    have ha : acc = total := by simpa [sumC] using hacc
    rw [e0, h0.1, h0.2.1, h0.2.2]
    refine ⟨hn, [], acc, ⟨p1, p2, .inl ⟨rfl, rfl, ha⟩⟩, by simp, .inr ⟨hs, by omega⟩⟩
  | cons f c =>
    have hpm := hF _ (par_mem (c := f :: c) (by simp))
    cases f with
    | L u r =>
      have eu : (A x).up = u := hup
      have hu0 : u ≠ 0 := hpm.2
      obtain ⟨c1, c2, c3, c4, c5, c6⟩ := hC
      have hs : sideA A x = 0 := by
        unfold sideA
        rw [eu, c3, if_neg (root_ne (fun h => hxc (by simp [cl, cr, h])) hx)]
      rw [eu]
      have hn' : (cl c ++ (u :: r.flat ++ cr c)).Nodup := by simpa [cl, cr] using hN
      have hnd := List.nodup_append.1 hn'
      have hnd2 := List.nodup_append.1 hnd.2.1
      refine ⟨by rw [c2]; exact hxn, c, acc, ⟨p1, p2, .inr ⟨hu0, hpm.1, c1, ⟨_, c6⟩, hF.tail, List.nodup_append.2 ⟨hnd.1, hnd2.2.1, fun a ha b hb => hnd.2.2 a ha b (by simp [hb])⟩, fun h => ?_, htop, hacc⟩⟩, by rw [if_neg hu0]; rfl, .inl ⟨hs, rfl⟩⟩
      rcases List.mem_append.1 h with h | h
      · exact hnd.2.2 u h u (by simp) rfl
      · exact hnd2.2.2 u (by simp) u h rfl
    | R l u =>
      have eu : (A x).up = u := hup
      have hu0 : u ≠ 0 := hpm.2
      obtain ⟨c1, c2, c3, c4, c5, c6⟩ := hC
      have hs : sideA A x = 1 := by unfold sideA; rw [eu]; exact if_pos c3
      have hlr : l.root < n := by
        cases l with
        | nil => exact hn
        | node p q v => exact (hF q (by simp [cl, cr, Tr.flat])).1
      have hwl : (A (A u).d0).whole = l.sum A := by rw [c2]; exact c5.whole h0.2.2
      rw [eu, hwl]
      have hn' : (cl c ++ (l.flat ++ [u]) ++ cr c).Nodup := by simpa [cl, cr] using hN
      have hnd := List.nodup_append.1 hn'
      have hnd1 := List.nodup_append.1 hnd.1
      have hnn := sumC_nn hT c
      have h2 := Tr.sum_nn hT l
      have h3 := hT u
      have hacc' : acc + (sumC A c + (l.sum A + (A u).long)) = total := hacc
      refine ⟨by rw [c2]; exact hlr, c, acc + (l.sum A + (A u).long), ⟨by omega, by omega, .inr ⟨hu0, hpm.1, c1, ⟨_, c6⟩, hF.tail, List.nodup_append.2 ⟨hnd1.1, hnd.2.1, fun a ha b hb => hnd.2.2 a (by simp [ha]) b hb⟩, fun h => ?_, htop, by omega⟩⟩, by rw [if_neg hu0]; rfl, .inr ⟨hs, rfl⟩⟩
      rcases List.mem_append.1 h with h | h
      · exact hnd1.2.2 u h u (by simp) rfl
      · exact hnd.2.2 u (by simp) u h rfl
end Go.Proofs.YtdnhoicfolkbnaaGreat
