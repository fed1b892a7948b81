/- Package seq's row: last. -/
import Derived.Test.YtcolbgbmnmkogabSeqRe
namespace Go.Proofs.Ytcolbgbmnmkogab
open Go.RowKit
set_option linter.unusedVariables false
set_option linter.unusedSimpArgs false
set_option maxRecDepth 100000

/-- The last one that p holds of, on the way down; f, if there is none. -/
def lastT (p : Nat → Bool) : Tr → Nat → Nat
  | .nil, f => f
  | .node l i r, f => bif p i then lastT p r i else lastT p l f
set_option maxHeartbeats 8000000 in
theorem last_any {w : World} {b k g cap : Nat} {L : List Th} (h : Things w b k g cap L) (t : Tr) (hok : RowOk (gt L) L.length t) (p : Nat → Bool) (c1 c2 : Value)
    (HP : ∀ (W : World) (x : Nat), Touch (fun _ => False) w W → x ∈ t.flat → Calls Try.prog 49 #[iV (x : Int), c1, c2] W fun e w' => e = .returned (.bool (p x)) ∧ Touch (fun _ => False) W w') :
    Calls Try.prog 48 #[rP b k, .func (.func 49) #[] #[c1, c2]] w fun e w' => e = .returned (iV (lastT p t 0 : Int)) ∧ Touch (fun _ => False) w w' := by
  have h0 := hok.n0
  have HTop : Hid (Calls Try.prog 47 #[rP b k] w fun e w' => e = .returned (iV (t.root : Int)) ∧ w' = w) := by
    have := top_any h h0
    rw [← gt_of h0, hok.head] at this
    exact this
  have HK : Hid (∀ W, Touch (fun _ => False) w W → Things W b k g cap L) := fun W t => h.keep t id id
  have HPx : Hid (∀ (W : World) (x : Nat), Touch (fun _ => False) w W → x ∈ t.flat → Calls Try.prog 49 #[iV (x : Int), c1, c2] W fun e w' => e = .returned (.bool (p x)) ∧ Touch (fun _ => False) W w') := HP
  have HR : Hid (Rep (gt L) 0 t ∧ t.Fits L.length) := ⟨hok.rep, fun x hx => by have := (hok.lab x).1 hx; exact ⟨by omega, by omega⟩⟩
  obtain ⟨i, hi⟩ : ∃ i, Hid (i = t.root) := ⟨_, Eq.refl _⟩
  obtain ⟨res, hres⟩ : ∃ r, Hid (r = lastT p t 0) := ⟨_, Eq.refl _⟩
  rw [← hi.out] at HTop
  rw [← hres.out]
  clear h hok h0 HP
  go_enter Try.func48, Try.ntmps48
  go_wp2_with fail
  refine HTop.out.mono ?_
  rintro e w' ⟨rfl, hw'⟩
  rw [hw']
  clear hw' HTop
  go_wp2_with fail
  go_loopg [5, 6] t.size (fun gk s5 s6 wx => ∃ (f x q : Nat) (u : Tr), s5 = iV (f : Int) ∧ s6 = iV (x : Int) ∧ Hid (Touch (fun _ => False) w wx) ∧ Hid (u.size = gk ∧ x = u.root ∧ Rep (gt L) q u ∧ u.Fits L.length ∧ res = lastT p u f ∧ ∀ y ∈ u.flat, y ∈ t.flat))
  case atStart => exact ⟨0, i, 0, t, rfl, rfl, Touch.refl _ _, rfl, hi.out, HR.out.1, HR.out.2, hres.out, fun y hy => hy⟩
  case round =>
    obtain ⟨f, x, q, u, rfl, rfl, HT, HU⟩ := hrel
    obtain ⟨X0, hX0⟩ : ∃ X, X = wr := ⟨_, rfl⟩
    subst hX0
    obtain ⟨hs, hx, hRu, hFu, hr, hsub⟩ := HU.out
    cases u with
    | nil =>
      have hx0 : x = 0 := hx
      have h1 : res = f := hr
      subst hx0 h1
      clear HU hs hRu hFu hr hx hsub
      go_wp2_with fail
      go_ret
      exact ⟨rfl, HT.out⟩
    | node l y r =>
      have hxy : x = y := hx
      subst hxy
      obtain ⟨hl, hy, hrr⟩ := hFu.node
      have HC : Hid (∀ W, Touch (fun _ => False) w W → Calls Try.prog 49 #[iV (x : Int), c1, c2] W fun e w' => e = .returned (.bool (p x)) ∧ Touch (fun _ => False) W w') := fun W t => HPx.out W x t (hsub x (by simp [Tr.flat]))
      have HCl : Hid (∀ W, Touch (fun _ => False) w W → W.cell? ⟨b, k, none⟩ = some (.slice (some ⟨g, 0, none⟩) L.length cap) ∧ W.cell? ⟨g, x * 5 + 1, none⟩ = some (iV (l.root : Int)) ∧ W.cell? ⟨g, x * 5 + 2, none⟩ = some (iV (r.root : Int))) := fun W t => by
        have t1 := (HK.out W t).th x hy.1
        rw [← gt_of hy.1] at t1
        have q1 := t1.c1
        have q2 := t1.c2
        rw [hRu.2.1] at q1
        rw [hRu.2.2.1] at q2
        exact ⟨(HK.out W t).cell, q1, q2⟩
      have lx : (x : Int) < (L.length : Int) := by omega
      have lx0 : (0 : Int) ≤ (x : Int) := by omega
      have xx : ((x : Int) != 0) = true := by simp [hy.2]
      have HV : Hid (res = (bif p x then lastT p r x else lastT p l f) ∧ l.size < gk ∧ r.size < gk ∧ (Rep (gt L) x l ∧ l.Fits L.length ∧ ∀ z ∈ l.flat, z ∈ t.flat) ∧ Rep (gt L) x r ∧ r.Fits L.length ∧ ∀ z ∈ r.flat, z ∈ t.flat) := by
        refine ⟨hr, ?_, ?_, ⟨hRu.2.2.2.2.1, hl, fun z hz => hsub z (by simp [Tr.flat, hz])⟩, hRu.2.2.2.2.2, hrr, fun z hz => hsub z (by simp [Tr.flat, hz])⟩ <;> (rw [← hs]; simp only [Tr.size]; omega)
      clear HU hs hRu hFu hr hx hsub hl hy hrr
      go_wp2_with fail
      refine (HC.out _ HT.out).mono ?_
      rintro e X1 ⟨rfl, t1⟩
      have HT1 : Hid (Touch (fun _ => False) w X1) := HT.out.trans t1
      clear t1 HT HC
      obtain ⟨kc, ka, kb⟩ := HCl.out X1 HT1.out
      generalize p x = px at *
      cases px
      · obtain ⟨m, hm⟩ : ∃ m, m = l.size := ⟨_, rfl⟩
        have hmg : m < gk := by rw [hm]; exact HV.out.2.1
        have HM : Hid (l.size = m) := hm.symm
        clear hm
        go_wp2_with fail
        go_roundg m
        case measure => omega
        case rel => exact ⟨f, _, x, l, rfl, rfl, HT1.out, HM.out, rfl, HV.out.2.2.2.1.1, HV.out.2.2.2.1.2.1, HV.out.1, HV.out.2.2.2.1.2.2⟩
      · obtain ⟨m, hm⟩ : ∃ m, m = r.size := ⟨_, rfl⟩
        have hmg : m < gk := by rw [hm]; exact HV.out.2.2.1
        have HM : Hid (r.size = m) := hm.symm
        clear hm
        go_upto_region 5 with fail
        go_quiet (fail)
        have HT2 : Hid (Touch (fun _ => False) w (X1.drewN nq)) := ⟨HT1.out.os, HT1.out.tape, HT1.out.output, HT1.out.size, HT1.out.block⟩
        clear kc ka kb
        generalize X1.drewN nq = X2 at *
        go_wp2_with fail
        go_roundg m
        case measure => omega
        case rel => exact ⟨x, _, x, r, rfl, rfl, HT2.out, HM.out, rfl, HV.out.2.2.2.2.1, HV.out.2.2.2.2.2.1, HV.out.1, HV.out.2.2.2.2.2.2⟩
end Go.Proofs.Ytcolbgbmnmkogab
