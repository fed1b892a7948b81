/- Trees whose nodes are things of an array: one made longer. -/
import Derived.Test.YtnilikomoapcaaaGreatTreS
import Derived.Test.YtnilikomoapcaaaGreatSeqR4
namespace Go.Proofs.YtnilikomoapcaaaGreat
set_option linter.unusedVariables false
set_option linter.unusedSimpArgs false

/-- The ones above, the nearest first. -/
def ups : List Fr → List Nat
  | [] => []
  | .L u _ :: c => u :: ups c
  | .R _ u :: c => u :: ups c
theorem ups_sub : ∀ {c : List Fr} {x : Nat}, x ∈ ups c → x ∈ cl c ++ cr c
  | .L u r :: c, x, h => by
    rcases List.mem_cons.1 h with rfl | h
    · simp [cl, cr]
    · have := ups_sub h
      simp only [cl, cr, List.mem_append, List.mem_cons] at this ⊢
      rcases this with h | h <;> simp [h]
  | .R l u :: c, x, h => by
    rcases List.mem_cons.1 h with rfl | h
    · simp [cl, cr]
    · have := ups_sub h
      simp only [cl, cr, List.mem_append, List.mem_cons] at this ⊢
      rcases this with h | h <;> simp [h]
/-- The wholes of these by n more. -/
def moreW (A : Nat → Th) (P : List Nat) (n : Int) : Nat → Th := fun j => if j ∈ P then { A j with whole := (A j).whole + n } else A j
/-- One by n longer. -/
def moreL (A : Nat → Th) (i : Nat) (n : Int) : Nat → Th := fun j => if j = i then { A i with long := (A i).long + n } else A j
def growA (A : Nat → Th) (i : Nat) (P : List Nat) (n : Int) : Nat → Th := moreW (moreL A i n) P n
theorem RepC.grow {A B : Nat → Th} {n : Int} : ∀ {c : List Fr} {i : Nat} {s : Int}, RepC A c i s → (cl c ++ cr c).Nodup → (∀ j ∈ ups c, B j = { A j with whole := (A j).whole + n }) → (∀ j ∈ cl c ++ cr c, j ∉ ups c → B j = A j) → RepC B c i (s + n)
  | [], _, _, _, _, _, _ => trivial
  | .L u r :: c, i, s, ⟨h1, h2, h3, h4, h5, h6⟩, hn, hu, ho => by
    have hn' : (cl c ++ (u :: r.flat ++ cr c)).Nodup := by simpa [cl, cr] using hn
    have hnd := List.nodup_append.1 hn'
    have hnd2 := List.nodup_append.1 hnd.2.1
    have hcc : (cl c ++ cr c).Nodup := List.nodup_append.2 ⟨hnd.1, hnd2.2.1, fun x hx y hy => hnd.2.2 x hx y (by simp [hy])⟩
    have uc : u ∉ cl c ++ cr c := fun h => by
      rcases List.mem_append.1 h with h | h
      · exact hnd.2.2 u h u (by simp) rfl
      · exact hnd2.2.2 u (by simp) u h rfl
    have rc : ∀ x ∈ r.flat, x ∉ cl c ++ cr c := fun x hx h => by
      rcases List.mem_append.1 h with h | h
      · exact hnd.2.2 x h x (by simp [hx]) rfl
      · exact hnd2.2.2 x (by simp [hx]) x h rfl
    have ur : u ∉ r.flat := (List.nodup_cons.1 hnd2.1).1
    have bu := hu u (by simp [ups])
    have br : ∀ x ∈ r.flat, A x = B x := fun x hx => (ho x (by simp [cl, cr, hx]) (fun h => by
      rcases List.mem_cons.1 h with rfl | h
      · exact ur hx
      · exact rc x hx (ups_sub h))).symm
    have s2 := Tr.sum_congr (A := A) (B := B) (t := r) fun x hx => by rw [br x hx]
    refine ⟨by rw [bu]; exact h1, by rw [bu]; exact h2, by rw [bu]; exact h3, ?_, Rep.congr br h5, ?_⟩
    · rw [bu, ← s2]
      show (A u).whole + n = s + n + (A u).long + r.sum A
      rw [h4]
      omega
    · rw [bu, ← s2, show s + n + (A u).long + r.sum A = s + (A u).long + r.sum A + n from by omega]
      refine RepC.grow h6 hcc (fun j hj => hu j (by simp [ups, hj])) (fun j hj hj' => ho j ?_ ?_)
      · simp only [cl, cr, List.mem_append, List.mem_cons] at hj ⊢
        rcases hj with h | h <;> simp [h]
      · intro h
        rcases List.mem_cons.1 h with rfl | h
        · exact uc hj
        · exact hj' h
  | .R l u :: c, i, s, ⟨h1, h2, h3, h4, h5, h6⟩, hn, hu, ho => by
    have hn' : (cl c ++ (l.flat ++ [u]) ++ cr c).Nodup := by simpa [cl, cr] using hn
    have hnd := List.nodup_append.1 hn'
    have hnd1 := List.nodup_append.1 hnd.1
    have hnd2 := List.nodup_append.1 hnd1.2.1
    have hcc : (cl c ++ cr c).Nodup := List.nodup_append.2 ⟨hnd1.1, hnd.2.1, fun x hx y hy => hnd.2.2 x (by simp [hx]) y hy⟩
    have uc : u ∉ cl c ++ cr c := fun h => by
      rcases List.mem_append.1 h with h | h
      · exact hnd1.2.2 u h u (by simp) rfl
      · exact hnd.2.2 u (by simp) u h rfl
    have rc : ∀ x ∈ l.flat, x ∉ cl c ++ cr c := fun x hx h => by
      rcases List.mem_append.1 h with h | h
      · exact hnd1.2.2 x h x (by simp [hx]) rfl
      · exact hnd.2.2 x (by simp [hx]) x h rfl
    have ul : u ∉ l.flat := fun h => hnd2.2.2 u h u (by simp) rfl
    have bu := hu u (by simp [ups])
    have br : ∀ x ∈ l.flat, A x = B x := fun x hx => (ho x (by simp [cl, cr, hx]) (fun h => by
      rcases List.mem_cons.1 h with rfl | h
      · exact ul hx
      · exact rc x hx (ups_sub h))).symm
    have s2 := Tr.sum_congr (A := A) (B := B) (t := l) fun x hx => by rw [br x hx]
    refine ⟨by rw [bu]; exact h1, by rw [bu]; exact h2, by rw [bu]; exact h3, ?_, Rep.congr br h5, ?_⟩
    · rw [bu, ← s2]
      show (A u).whole + n = l.sum A + (A u).long + (s + n)
      rw [h4]
      omega
    · rw [bu, ← s2, show l.sum A + (A u).long + (s + n) = l.sum A + (A u).long + s + n from by omega]
      refine RepC.grow h6 hcc (fun j hj => hu j (by simp [ups, hj])) (fun j hj hj' => ho j ?_ ?_)
      · simp only [cl, cr, List.mem_append, List.mem_cons] at hj ⊢
        rcases hj with h | h <;> simp [h]
      · intro h
        rcases List.mem_cons.1 h with rfl | h
        · exact uc hj
        · exact hj' h
/-- The row with one thing longer by n: the same tree. -/
theorem grow_rep {A : Nat → Th} {c : List Fr} {a b : Tr} {i : Nat} {n : Int} (H : Rep A 0 (plug c (.node a i b))) (N : (plug c (.node a i b)).flat.Nodup) : Rep (growA A i (i :: ups c) n) 0 (plug c (.node a i b)) := by
  rw [flat_plug] at N
  obtain ⟨hC, i1, i2, i3, i4, i5, i6⟩ := (rep_plug A c (.node a i b)).1 H
  have n1 : (cl c ++ (a.flat ++ i :: b.flat) ++ cr c).Nodup := N
  have hnd := List.nodup_append.1 n1
  have hnd1 := List.nodup_append.1 hnd.1
  have hnd2 := List.nodup_append.1 hnd1.2.1
  have hnd3 := List.nodup_cons.1 hnd2.2.1
  have hcc : (cl c ++ cr c).Nodup := List.nodup_append.2 ⟨hnd1.1, hnd.2.1, fun x hx y hy => hnd.2.2 x (by simp [hx]) y hy⟩
  have hin : ∀ x ∈ a.flat ++ i :: b.flat, x ∉ cl c ++ cr c := fun x hx h => by
    rcases List.mem_append.1 h with h | h
    · exact hnd1.2.2 x h x hx rfl
    · exact hnd.2.2 x (List.mem_append.2 (.inr hx)) x h rfl
  have ic : i ∉ cl c ++ cr c := hin i (by simp)
  have ia : i ∉ a.flat := fun h => hnd2.2.2 i h i (by simp) rfl
  have ib : i ∉ b.flat := hnd3.1
  have gi : growA A i (i :: ups c) n i = { A i with long := (A i).long + n, whole := (A i).whole + n } := by simp [growA, moreW, moreL]
  have go : ∀ x, x ≠ i → x ∉ ups c → growA A i (i :: ups c) n x = A x := fun x h1 h2 => by simp [growA, moreW, moreL, h1, h2]
  have gu : ∀ x ∈ ups c, growA A i (i :: ups c) n x = { A x with whole := (A x).whole + n } := fun x hx => by
    have : x ≠ i := fun e => ic (e ▸ ups_sub hx)
    simp [growA, moreW, moreL, hx, this]
  have ga : ∀ x ∈ a.flat, A x = growA A i (i :: ups c) n x := fun x hx => (go x (fun e => ia (e ▸ hx)) (fun h => hin x (by simp [hx]) (ups_sub h))).symm
  have gb : ∀ x ∈ b.flat, A x = growA A i (i :: ups c) n x := fun x hx => (go x (fun e => ib (e ▸ hx)) (fun h => hin x (by simp [hx]) (ups_sub h))).symm
  have sa := Tr.sum_congr (A := A) (B := growA A i (i :: ups c) n) (t := a) fun x hx => by rw [← ga x hx]
  have sb := Tr.sum_congr (A := A) (B := growA A i (i :: ups c) n) (t := b) fun x hx => by rw [← gb x hx]
  refine (rep_plug _ c _).2 ⟨?_, ⟨by rw [gi]; exact i1, by rw [gi]; exact i2, by rw [gi]; exact i3, ?_, Rep.congr ga i5, Rep.congr gb i6⟩⟩
  · have e : (Tr.node a i b).sum (growA A i (i :: ups c) n) = (Tr.node a i b).sum A + n := by
      simp only [Tr.sum, ← sa, ← sb, gi]
      omega
    rw [e]
    exact hC.grow hcc gu (fun x hx hx' => go x (fun e => ic (e ▸ hx)) hx')
  · rw [gi, ← sa, ← sb]
    show (A i).whole + n = a.sum A + ((A i).long + n) + b.sum A
    rw [i4]
    omega
end Go.Proofs.YtnilikomoapcaaaGreat

/- Package seq's row: grow, first. -/
namespace Go.Proofs.YtnilikomoapcaaaGreat
open Go.RowKit
set_option linter.unusedVariables false
set_option linter.unusedSimpArgs false
set_option maxRecDepth 100000

/-- A way up in the array: each one's up is the next, the last one's none. -/
def WayUp (A : Nat → Th) : List Nat → Prop
  | [] => True
  | [x] => (A x).up = 0
  | x :: y :: l => (A x).up = y ∧ WayUp A (y :: l)
theorem WayUp.at {A : Nat → Th} {x : Nat} {rem : List Nat} : ∀ {dn : List Nat}, WayUp A (dn ++ x :: rem) → (A x).up = rem.headD 0
  | [], h => by
    cases rem with
    | nil => exact h
    | cons z rem => exact h.1
  | [d], h => WayUp.at (dn := []) h.2
  | d :: d' :: dn, h => WayUp.at (dn := d' :: dn) h.2
theorem RepC.way {A : Nat → Th} : ∀ {c : List Fr} {i : Nat} {s : Int}, RepC A c i s → (A i).up = par c → WayUp A (i :: ups c)
  | [], _, _, _, h => h
  | .L u r :: c, i, s, ⟨h1, _, _, _, _, h6⟩, h => ⟨h, RepC.way h6 h1⟩
  | .R l u :: c, i, s, ⟨h1, _, _, _, _, h6⟩, h => ⟨h, RepC.way h6 h1⟩
theorem st_st {L : List Th} {i f : Nat} {y : Int} (h : i < L.length) : gt (st L i f y) = upd (gt L) i f y := by
  funext j
  rw [gt_st h]
  rfl
theorem moreL_st {L : List Th} {i : Nat} {n : Int} (h : i < L.length) : gt (st L i 3 ((gt L i).long + n)) = moreL (gt L) i n := by
  rw [st_st h]
  rfl
theorem moreW_st {L : List Th} {A : Nat → Th} {P : List Nat} {x : Nat} {n : Int} (h : x < L.length) (e : gt L = moreW A P n) (hx : x ∉ P) : gt (st L x 4 ((gt L x).whole + n)) = moreW A (P ++ [x]) n := by
  rw [st_st h, e]
  funext j
  unfold upd moreW
  by_cases hj : j = x
  · subst hj
    simp [hx, Th.put]
  · simp [hj]
set_option maxHeartbeats 8000000 in
theorem grow_any {w : World} {b k g cap : Nat} {L : List Th} (h : Things w b k g cap L) (i : Nat) (P : List Nat) (n : Int) (hi : i < L.length) (hi0 : i ≠ 0) (hP : ∀ x ∈ i :: P, x < L.length ∧ x ≠ 0) (hN : (i :: P).Nodup) (hW : WayUp (gt L) (i :: P))
    (w0 : ∀ x ∈ i :: P, IntKind.i64.wrap ((gt L x).whole + n) = (gt L x).whole + n) (w1 : IntKind.i64.wrap ((gt L i).long + n) = (gt L i).long + n) :
    Calls Tryz.prog 53 #[rP b k, iV (i : Int), iV n] w fun e w' => e = .returned (.tuple #[]) ∧ (∃ L', Things w' b k g cap L' ∧ L'.length = L.length ∧ gt L' = growA (gt L) i (i :: P) n) ∧ Touch (· = g) w w' := by
  have hc := h.cell
  have t1 := h.th i hi
  rw [← gt_of hi] at t1
  have c3 := t1.c3
  have z3 : w.frozen? ⟨g, i * 5 + 3, none⟩ = false := h.free _
  have li : (i : Int) < (L.length : Int) := by omega
  have li0 : (0 : Int) ≤ (i : Int) := by omega
  obtain ⟨W1, hW1⟩ : ∃ W, Hid (W = w.setCell ⟨g, i * 5 + 3, none⟩ (iV ((gt L i).long + n))) := ⟨_, Eq.refl _⟩
  have H1 : Hid (Things W1 b k g cap (st L i 3 ((gt L i).long + n)) ∧ Touch (· = g) w W1) := by
    rw [hW1.out]
    exact ⟨h.st i hi 3 (by omega) _ (.inr (by omega)), (Touch.refl _ _).cellG _ _⟩
  obtain ⟨L1, hL1⟩ : ∃ l, Hid (l = st L i 3 ((gt L i).long + n)) := ⟨_, Eq.refl _⟩
  have HL1 : Hid (L1.length = L.length ∧ gt L1 = moreL (gt L) i n) := by rw [hL1.out]; exact ⟨st_len _ _ _ _, moreL_st hi⟩
  rw [← hL1.out] at H1
  have HP : Hid (∀ x ∈ i :: P, x < L.length ∧ x ≠ 0) := hP
  have HNd : Hid (i :: P).Nodup := hN
  have HWy : Hid (WayUp (gt L) (i :: P)) := hW
  have HW0 : Hid (∀ x ∈ i :: P, IntKind.i64.wrap ((gt L x).whole + n) = (gt L x).whole + n) := w0
  obtain ⟨A, hA⟩ : ∃ A, Hid (A = moreL (gt L) i n) := ⟨_, Eq.refl _⟩
  have HA : Hid ((∀ x, (A x).up = (gt L x).up) ∧ ∀ x, (A x).whole = (gt L x).whole) := by
    rw [hA.out]
    exact ⟨fun x => by unfold moreL; split <;> (try subst_vars) <;> rfl, fun x => by unfold moreL; split <;> (try subst_vars) <;> rfl⟩
  generalize (gt L i).long = tl at *
  clear h t1 hP hN hW w0 hL1
  go_enter Tryz.func53, Tryz.ntmps53
  go_wp2_with fail
  rw [← hW1.out]
  clear hW1 hc c3 z3
  go_loopg [1] (P.length + 1) (fun gk s1 wx => ∃ (dn rem : List Nat) (x : Nat) (Lx : List Th), Hid (i :: P = dn ++ rem) ∧ Hid (rem.length = gk) ∧ s1 = iV (x : Int) ∧ Hid (x = rem.headD 0) ∧ Hid (Things wx b k g cap Lx ∧ Touch (· = g) w wx ∧ Lx.length = L.length ∧ gt Lx = moreW A dn n))
  case atStart => exact ⟨[], i :: P, i, L1, Eq.refl _, Eq.refl _, rfl, Eq.refl _, H1.out.1, H1.out.2, HL1.out.1, by rw [HL1.out.2, ← hA.out]; funext j; simp [moreW]⟩
  case round =>
    obtain ⟨dn, rem, x, Lx, HD, HR, rfl, HX, HI⟩ := hrel
    obtain ⟨X0, hX0⟩ : ∃ X, X = wr := ⟨_, rfl⟩
    subst hX0
    cases rem with
    | nil =>
      have hx : x = 0 := HX.out
      subst hx
      have HF : Hid (gt Lx = growA (gt L) i (i :: P) n) := by
        have := HD.out
        rw [List.append_nil] at this
        rw [HI.out.2.2.2, ← this, hA.out]
        exact Eq.refl _
      go_wp2_with fail
      go_end0
      exact ⟨rfl, ⟨Lx, HI.out.1, HI.out.2.2.1, HF.out⟩, HI.out.2.1⟩
    | cons y rem =>
      have hx : x = y := HX.out
      subst hx
      have hmem : x ∈ i :: P := by rw [HD.out]; simp
      have hnd : x ∉ dn := by
        have := HNd.out
        rw [HD.out] at this
        intro h'
        exact (List.nodup_append.1 this).2.2 x h' x (by simp) rfl
      obtain ⟨hxl, hx0⟩ := HP.out x hmem
      have hlx : Lx.length = L.length := HI.out.2.2.1
      have egx : (gt Lx x).whole = (gt L x).whole ∧ (gt Lx x).up = (gt L x).up := by
        rw [HI.out.2.2.2]
        unfold moreW
        rw [if_neg hnd]
        exact ⟨HA.out.2 x, HA.out.1 x⟩
      have hxL : x < Lx.length := by omega
      have t1 := HI.out.1.th x hxL
      rw [← gt_of hxL] at t1
      have c4 := t1.c4
      rw [egx.1] at c4
      have hc := HI.out.1.cell
      rw [hlx] at hc
      have z4 : X0.frozen? ⟨g, x * 5 + 4, none⟩ = false := HI.out.1.free _
      have w4 := HW0.out x hmem
      obtain ⟨X1, hX1⟩ : ∃ W, Hid (W = X0.setCell ⟨g, x * 5 + 4, none⟩ (iV ((gt L x).whole + n))) := ⟨_, Eq.refl _⟩
      obtain ⟨Ly, hLy⟩ : ∃ l, Hid (l = st Lx x 4 ((gt Lx x).whole + n)) := ⟨_, Eq.refl _⟩
      have HY : Hid (Things X1 b k g cap Ly ∧ Touch (· = g) w X1 ∧ Ly.length = L.length ∧ gt Ly = moreW A (dn ++ [x]) n) := by
        rw [hX1.out, hLy.out, ← egx.1]
        exact ⟨HI.out.1.st x hxL 4 (by omega) _ (.inr (by omega)), HI.out.2.1.cellG _ _, by rw [st_len]; exact hlx, moreW_st hxL HI.out.2.2.2 hnd⟩
      obtain ⟨y, hy⟩ : ∃ y, Hid (y = rem.headD 0) := ⟨_, Eq.refl _⟩
      have hup : (gt L x).up = y := by
        have hw := HWy.out
        rw [HD.out] at hw
        rw [hy.out]
        exact hw.at
      have hyL : (Ly.length) = L.length := HY.out.2.2.1
      have t2 := HY.out.1.th x (by omega)
      rw [← gt_of (by omega)] at t2
      have d0 := t2.c0
      have e0 : (gt Ly x).up = y := by
        rw [HY.out.2.2.2]
        unfold moreW
        rw [if_pos (by simp)]
        show (A x).up = y
        rw [HA.out.1]
        exact hup
      rw [e0] at d0
      have hc2 := HY.out.1.cell
      rw [hyL] at hc2
      have lx : (x : Int) < (L.length : Int) := by omega
      have lx0 : (0 : Int) ≤ (x : Int) := by omega
      have xx : ((x : Int) != 0) = true := by simp [hx0]
      have HD2 : Hid (i :: P = (dn ++ [x]) ++ rem) := by rw [List.append_assoc]; exact HD.out
      have hgk : gk = rem.length + 1 := HR.out.symm
      generalize (gt L x).whole = tw at *
      clear t1 t2 e0 hup egx hlx hyL hLy HI HX hx0 hnd hmem hxl hxL HD HR
      go_upto_region 2 with fail
      rw [← hX1.out]
      clear hX1 c4 z4 hc
      go_wp2_with fail
      go_roundg rem.length
      case measure => omega
      case rel => exact ⟨dn ++ [x], rem, y, Ly, HD2.out, Eq.refl _, rfl, hy.out, HY.out⟩
end Go.Proofs.YtnilikomoapcaaaGreat

/- Package seq's row: first, at. -/
namespace Go.Proofs.YtnilikomoapcaaaGreat
open Go.RowKit
set_option linter.unusedVariables false
set_option linter.unusedSimpArgs false
set_option maxRecDepth 100000

def Tr.size : Tr → Nat
  | .nil => 0
  | .node l _ r => l.size + 1 + r.size
/-- The foremost. -/
def Tr.first : Tr → Nat
  | .nil => 0
  | .node .nil i _ => i
  | .node l _ _ => l.first
/-- Every label is one of an array of n things, and none is 0. -/
def Tr.Fits (t : Tr) (n : Nat) : Prop := ∀ x ∈ t.flat, x < n ∧ x ≠ 0
theorem Tr.Fits.node {l r : Tr} {i n : Nat} (h : (Tr.node l i r).Fits n) : l.Fits n ∧ (i < n ∧ i ≠ 0) ∧ r.Fits n := ⟨fun x hx => h x (by simp [Tr.flat, hx]), h i (by simp [Tr.flat]), fun x hx => h x (by simp [Tr.flat, hx])⟩
theorem Tr.Fits.root {t : Tr} {n : Nat} (h : t.Fits n) (hn : 0 < n) : t.root < n := by
  cases t with
  | nil => exact hn
  | node l i r => exact h.node.2.1.1
set_option maxHeartbeats 4000000 in
theorem first_any {w : World} {b k g cap : Nat} {L : List Th} (h : Things w b k g cap L) (t : Tr) (p : Nat) (hR : Rep (gt L) p t) (hF : t.Fits L.length) (hn : t ≠ .nil) : Calls Tryz.prog 96 #[rP b k, iV (t.root : Int)] w fun e w' => e = .returned (iV (t.first : Int)) ∧ w' = w := by
  have hc := h.cell
  have HT : Hid (Things w b k g cap L) := h
  have HR : Hid (Rep (gt L) p t ∧ t.Fits L.length ∧ t ≠ .nil) := ⟨hR, hF, hn⟩
  obtain ⟨i, hi⟩ : ∃ i, Hid (i = t.root) := ⟨_, Eq.refl _⟩
  obtain ⟨f, hf⟩ : ∃ f, Hid (f = t.first) := ⟨_, Eq.refl _⟩
  rw [← hi.out, ← hf.out]
  clear h hR hF hn
  go_enter Tryz.func96, Tryz.ntmps96
  go_wp2_with fail
  go_loopg [1] t.size (fun gk s1 wx => ∃ (x p : Nat) (u : Tr), s1 = iV (x : Int) ∧ Hid (w = wx) ∧ Hid (u.size = gk ∧ x = u.root ∧ f = u.first ∧ Rep (gt L) p u ∧ u.Fits L.length ∧ u ≠ .nil))
  case atStart => exact ⟨i, p, t, rfl, Eq.refl _, rfl, hi.out, hf.out, HR.out⟩
  case round =>
    obtain ⟨x, q, u, rfl, hw, HU⟩ := hrel
    have hw := hw.out
    subst hw
    obtain ⟨hs, hx, hfu, hRu, hFu, hnu⟩ := HU.out
    cases u with
    | nil => exact absurd rfl hnu
    | node l y r =>
      have hxy : x = y := hx
      subst hxy
      obtain ⟨hl, hy, hr⟩ := hFu.node
      have t1 := HT.out.th x hy.1
      rw [← gt_of hy.1] at t1
      have c1 := t1.c1
      rw [hRu.2.1] at c1
      have lx : (x : Int) < (L.length : Int) := by omega
      have lx0 : (0 : Int) ≤ (x : Int) := by omega
      cases l with
      | nil =>
        have c1' : w.cell? ⟨g, x * 5 + 1, none⟩ = some (iV 0) := c1
        have hfx : f = x := hfu
        subst hfx
        clear t1 c1 HU hs hfu hRu hFu hnu hl hy hr hx
        go_wp2_with fail
        go_ret
        exact ⟨rfl, rfl⟩
      | node l2 z r2 =>
        have c1' : w.cell? ⟨g, x * 5 + 1, none⟩ = some (iV (z : Int)) := c1
        have hz0 : z ≠ 0 := hl.node.2.1.2
        have zz : ((z : Int) != 0) = true := by simp [hz0]
        have HU2 : Hid (f = (Tr.node l2 z r2).first ∧ Rep (gt L) x (.node l2 z r2) ∧ (Tr.node l2 z r2).Fits L.length) := ⟨hfu, hRu.2.2.2.2.1, hl⟩
        have hsz : (Tr.node l2 z r2).size < gk := by
          rw [← hs]
          simp only [Tr.size]
          omega
        obtain ⟨m, hm⟩ : ∃ m, m = (Tr.node l2 z r2).size := ⟨_, rfl⟩
        rw [← hm] at hsz
        have HM : Hid ((Tr.node l2 z r2).size = m) := hm.symm
        clear t1 c1 HU hs hfu hRu hFu hnu hl hy hr hx hm hz0
        go_wp2_with fail
        go_roundg m
        case measure => omega
        case rel => exact ⟨z, x, .node l2 z r2, rfl, Eq.refl _, HM.out, rfl, HU2.out.1, HU2.out.2.1, HU2.out.2.2, by simp⟩
end Go.Proofs.YtnilikomoapcaaaGreat
