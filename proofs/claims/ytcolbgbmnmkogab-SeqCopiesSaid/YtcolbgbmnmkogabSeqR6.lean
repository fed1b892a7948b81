/- Package seq's row: first, at. -/
import Derived.Test.YtcolbgbmnmkogabSeqR5
namespace Go.Proofs.Ytcolbgbmnmkogab
open Go.RowKit
set_option linter.unusedVariables false
set_option linter.unusedSimpArgs false
set_option maxRecDepth 100000

def Tr.size : Tr → Nat
  | .nil => 0
  | .node l _ r => l.size + 1 + r.size
/-- The foremost. -/
def Tr.first : Tr → Nat
  | .nil => 0
  | .node .nil i _ => i
  | .node l _ _ => l.first
/-- Every label is one of an array of n things, and none is 0. -/
def Tr.Fits (t : Tr) (n : Nat) : Prop := ∀ x ∈ t.flat, x < n ∧ x ≠ 0
theorem Tr.Fits.node {l r : Tr} {i n : Nat} (h : (Tr.node l i r).Fits n) : l.Fits n ∧ (i < n ∧ i ≠ 0) ∧ r.Fits n := ⟨fun x hx => h x (by simp [Tr.flat, hx]), h i (by simp [Tr.flat]), fun x hx => h x (by simp [Tr.flat, hx])⟩
theorem Tr.Fits.root {t : Tr} {n : Nat} (h : t.Fits n) (hn : 0 < n) : t.root < n := by
  cases t with
  | nil => exact hn
  | node l i r => exact h.node.2.1.1
set_option maxHeartbeats 4000000 in
theorem first_any {w : World} {b k g cap : Nat} {L : List Th} (h : Things w b k g cap L) (t : Tr) (p : Nat) (hR : Rep (gt L) p t) (hF : t.Fits L.length) (hn : t ≠ .nil) : Calls Try.prog 74 #[rP b k, iV (t.root : Int)] w fun e w' => e = .returned (iV (t.first : Int)) ∧ w' = w := by
  have hc := h.cell
  have HT : Hid (Things w b k g cap L) := h
  have HR : Hid (Rep (gt L) p t ∧ t.Fits L.length ∧ t ≠ .nil) := ⟨hR, hF, hn⟩
  obtain ⟨i, hi⟩ : ∃ i, Hid (i = t.root) := ⟨_, Eq.refl _⟩
  obtain ⟨f, hf⟩ : ∃ f, Hid (f = t.first) := ⟨_, Eq.refl _⟩
  rw [← hi.out, ← hf.out]
  clear h hR hF hn
  go_enter Try.func74, Try.ntmps74
  go_wp2_with fail
  go_loopg [1] t.size (fun gk s1 wx => ∃ (x p : Nat) (u : Tr), s1 = iV (x : Int) ∧ Hid (w = wx) ∧ Hid (u.size = gk ∧ x = u.root ∧ f = u.first ∧ Rep (gt L) p u ∧ u.Fits L.length ∧ u ≠ .nil))
  case atStart => exact ⟨i, p, t, rfl, Eq.refl _, rfl, hi.out, hf.out, HR.out⟩
  case round =>
    obtain ⟨x, q, u, rfl, hw, HU⟩ := hrel
    have hw := hw.out
    subst hw
    obtain ⟨hs, hx, hfu, hRu, hFu, hnu⟩ := HU.out
    cases u with
    | nil => exact absurd rfl hnu
    | node l y r =>
      have hxy : x = y := hx
      subst hxy
      obtain ⟨hl, hy, hr⟩ := hFu.node
      have t1 := HT.out.th x hy.1
      rw [← gt_of hy.1] at t1
      have c1 := t1.c1
      rw [hRu.2.1] at c1
      have lx : (x : Int) < (L.length : Int) := by omega
      have lx0 : (0 : Int) ≤ (x : Int) := by omega
      cases l with
      | nil =>
        have c1' : w.cell? ⟨g, x * 5 + 1, none⟩ = some (iV 0) := c1
        have hfx : f = x := hfu
        subst hfx
        clear t1 c1 HU hs hfu hRu hFu hnu hl hy hr hx
        go_wp2_with fail
        go_ret
        exact ⟨rfl, rfl⟩
      | node l2 z r2 =>
        have c1' : w.cell? ⟨g, x * 5 + 1, none⟩ = some (iV (z : Int)) := c1
        have hz0 : z ≠ 0 := hl.node.2.1.2
        have zz : ((z : Int) != 0) = true := by simp [hz0]
        have HU2 : Hid (f = (Tr.node l2 z r2).first ∧ Rep (gt L) x (.node l2 z r2) ∧ (Tr.node l2 z r2).Fits L.length) := ⟨hfu, hRu.2.2.2.2.1, hl⟩
        have hsz : (Tr.node l2 z r2).size < gk := by
          rw [← hs]
          simp only [Tr.size]
          omega
        obtain ⟨m, hm⟩ : ∃ m, m = (Tr.node l2 z r2).size := ⟨_, rfl⟩
        rw [← hm] at hsz
        have HM : Hid ((Tr.node l2 z r2).size = m) := hm.symm
        clear t1 c1 HU hs hfu hRu hFu hnu hl hy hr hx hm hz0
        go_wp2_with fail
        go_roundg m
        case measure => omega
        case rel => exact ⟨z, x, .node l2 z r2, rfl, Eq.refl _, HM.out, rfl, HU2.out.1, HU2.out.2.1, HU2.out.2.2, by simp⟩
end Go.Proofs.Ytcolbgbmnmkogab
