/- Package seq's row: next. -/
import Derived.Test.YtcolbgbmnmkogabSeqR9
namespace Go.Proofs.Ytcolbgbmnmkogab
open Go.RowKit
set_option linter.unusedVariables false
set_option linter.unusedSimpArgs false
set_option maxRecDepth 100000

/-- The first one behind, on the way up. -/
def nextC : List Fr → Nat
  | [] => 0
  | .L u _ :: _ => u
  | .R _ _ :: c => nextC c
theorem nextC_head : ∀ c : List Fr, nextC c = (cr c).headD 0
  | [] => rfl
  | .L u r :: c => rfl
  | .R l u :: c => nextC_head c
theorem first_head : ∀ {t : Tr}, t ≠ .nil → ∃ l, t.flat = t.first :: l
  | .nil, h => absurd rfl h
  | .node .nil i r, _ => ⟨r.flat, rfl⟩
  | .node (.node a j b) i r, _ => by
    obtain ⟨l, hl⟩ := first_head (t := .node a j b) (by simp)
    exact ⟨l ++ i :: r.flat, by show (Tr.node a j b).flat ++ i :: r.flat = _; rw [hl]; rfl⟩
/-- Where next is, on its way up. -/
def InvN (A : Nat → Th) (n res x : Nat) (c : List Fr) : Prop :=
  (x = 0 ∧ c = [] ∧ res = 0) ∨ (x ≠ 0 ∧ x < n ∧ (A x).up = par c ∧ (∃ s, RepC A c x s) ∧ FitC c n ∧ x ∉ cl c ++ cr c ∧ (cl c ++ cr c).Nodup ∧ (A 0).d1 = topC c x ∧ nextC c = res)
theorem next_step {A : Nat → Th} {n res x : Nat} {c : List Fr} (h : InvN A n res x c) (hx : x ≠ 0) (hn : 0 < n) :
    x < n ∧ (A x).up < n ∧ ((sideA A x = 1 ∧ ∃ c', InvN A n res (A x).up c' ∧ (if (A x).up = 0 then 0 else c'.length + 1) = c.length) ∨ (sideA A x = 0 ∧ (A x).up = res)) := by
  rcases h with ⟨h, _⟩ | ⟨_, hxn, hup, ⟨s, hC⟩, hF, hxc, hN, htop, hres⟩
  · exact absurd h hx
  refine ⟨hxn, by rw [hup]; exact hF.par hn, ?_⟩
  cases c with
  | nil =>
    have e0 : (A x).up = 0 := hup
    have hs : sideA A x = 1 := by unfold sideA; rw [e0]; exact if_pos htop
    rw [e0]
    exact .inl ⟨hs, [], .inl ⟨rfl, rfl, hres.symm⟩, by simp⟩
  | cons f c =>
    have hpm := hF _ (par_mem (c := f :: c) (by simp))
    cases f with
    | L u r =>
      have eu : (A x).up = u := hup
      refine .inr ⟨?_, by rw [eu]; exact hres⟩
      unfold sideA
      rw [eu, hC.2.2.1, if_neg (root_ne (fun h => hxc (by simp [cl, cr, h])) hx)]
    | R l u =>
      have eu : (A x).up = u := hup
      have hu0 : u ≠ 0 := hpm.2
      obtain ⟨c1, c2, c3, c4, c5, c6⟩ := hC
      have hs : sideA A x = 1 := by unfold sideA; rw [eu]; exact if_pos c3
      rw [eu]
      have hn' : (cl c ++ (l.flat ++ [u]) ++ cr c).Nodup := by simpa [cl, cr] using hN
      have hnd := List.nodup_append.1 hn'
      have hnd1 := List.nodup_append.1 hnd.1
      refine .inl ⟨hs, c, .inr ⟨hu0, hpm.1, c1, ⟨_, c6⟩, hF.tail, fun h => ?_, List.nodup_append.2 ⟨hnd1.1, hnd.2.1, fun a ha b hb => hnd.2.2 a (by simp [ha]) b hb⟩, htop, hres⟩, by rw [if_neg hu0]; rfl⟩
      rcases List.mem_append.1 h with h | h
      · exact hnd1.2.2 u h u (by simp) rfl
      · exact hnd.2.2 u (by simp) u h rfl
set_option maxHeartbeats 8000000 in
theorem next_any {w : World} {b k g cap : Nat} {L : List Th} (h : Things w b k g cap L) (i : Nat) (d : Tr) (c : List Fr) (res : Nat) (hi : i < L.length) (h0 : 0 < L.length) (hz : (gt L 0).up = 0) (hd : (gt L i).d1 = d.root) (hR : Rep (gt L) i d) (hF : d.Fits L.length) (hI : InvN (gt L) L.length res i c) :
    Calls Try.prog 72 #[rP b k, iV (i : Int)] w fun e w' => e = .returned (iV ((if d.root = 0 then res else d.first : Nat) : Int)) ∧ Touch (fun _ => False) w w' := by
  have HK : Hid (∀ W, Touch (fun _ => False) w W → Things W b k g cap L) := fun W t => h.keep t id id
  have t1 := h.th i hi
  rw [← gt_of hi] at t1
  have q2 := t1.c2
  rw [hd] at q2
  have hc := h.cell
  have li : (i : Int) < (L.length : Int) := by omega
  have li0 : (0 : Int) ≤ (i : Int) := by omega
  by_cases hd0 : d.root = 0
  · rw [if_pos hd0]
    rw [hd0] at q2
    have HI : Hid (InvN (gt L) L.length res i c) := hI
    have HZ : Hid ((gt L 0).up = 0 ∧ 0 < L.length) := ⟨hz, h0⟩
    clear h t1 hd hR hF hI hd0 hz h0
    go_enter Try.func72, Try.ntmps72
    go_wp2_with fail
    clear q2 hc
    go_loopg [1] (c.length + 1) (fun gk s1 wx => ∃ (x : Nat) (c : List Fr), s1 = iV (x : Int) ∧ Hid (Touch (fun _ => False) w wx) ∧ Hid (InvN (gt L) L.length res x c) ∧ Hid ((if x = 0 then 0 else c.length + 1) ≤ gk))
    case atStart => exact ⟨i, c, rfl, Touch.refl _ _, HI.out, by show _ ≤ _; split <;> omega⟩
    case round =>
      obtain ⟨x, c, rfl, HT, HV, HM⟩ := hrel
      obtain ⟨X0, hX0⟩ : ∃ X, X = wr := ⟨_, rfl⟩
      subst hX0
      by_cases hx : x = 0
      · subst hx
        have HE : Hid (res = 0) := by
          rcases HV.out with ⟨_, _, h⟩ | ⟨h, _⟩
          · exact h
          · exact absurd rfl h
        have t1 := (HK.out X0 HT.out).th 0 HZ.out.2
        rw [← gt_of HZ.out.2] at t1
        have q0 := t1.c0
        rw [HZ.out.1] at q0
        have q0' : X0.cell? ⟨g, 0, none⟩ = some (iV 0) := by simpa using q0
        have hc := (HK.out X0 HT.out).cell
        have ll : (0 : Int) < (L.length : Int) := by have := HZ.out.2; omega
        clear t1 q0
        go_wp2_with fail
        go_ret
        exact ⟨by rw [HE.out]; rfl, HT.out⟩
      · have e0 : ((x : Int) != 0) = true := by simp [hx]
        obtain ⟨hxn, hun, hcase⟩ := next_step HV.out hx HZ.out.2
        have hmm : (if x = 0 then 0 else c.length + 1) = c.length + 1 := if_neg hx
        have hgk : c.length + 1 ≤ gk := by rw [← hmm]; exact HM.out
        have HSd : Hid (∀ W, Touch (fun _ => False) w W → Calls Try.prog 51 #[rP b k, iV (x : Int)] W fun e w' => e = .returned (iV (sideA (gt L) x : Int)) ∧ Touch (fun _ => False) W w') := fun W t => by
          have e1 : (gt L x).up = (L[x]'hxn).up := by rw [gt_of hxn]
          have hun' : (L[x]'hxn).up < L.length := by rw [← e1]; exact hun
          refine (side_any (HK.out W t) x hxn hun').mono ?_
          rintro e w' ⟨rfl, t⟩
          refine ⟨?_, t⟩
          have : (if (L[L[x].up]'hun').d1 = x then (1 : Int) else 0) = (sideA (gt L) x : Int) := by
            unfold sideA
            rw [gt_of hxn, gt_of hun']
            split <;> rfl
          rw [this]
        have HCl : Hid (∀ W, Touch (fun _ => False) w W → W.cell? ⟨b, k, none⟩ = some (.slice (some ⟨g, 0, none⟩) L.length cap) ∧ W.cell? ⟨g, x * 5, none⟩ = some (iV ((gt L x).up : Int))) := fun W t => by
          have t1 := (HK.out W t).th x hxn
          rw [← gt_of hxn] at t1
          exact ⟨(HK.out W t).cell, t1.c0⟩
        have lx : (x : Int) < (L.length : Int) := by omega
        have lx0 : (0 : Int) ≤ (x : Int) := by omega
        clear HV HM hmm hxn hun
        generalize (gt L x).up = u at *
        generalize sideA (gt L) x = sd at *
        go_wp2_with fail
        refine (HSd.out _ HT.out).mono ?_
        rintro e X1 ⟨rfl, t⟩
        have HT1 : Hid (Touch (fun _ => False) w X1) := HT.out.trans t
        clear t HT HSd
        have kc := (HCl.out X1 HT1.out).1
        have kx := (HCl.out X1 HT1.out).2
        rcases hcase with ⟨hs, c', hV', hm'⟩ | ⟨hs, ha⟩
        · have HV2 : Hid (InvN (gt L) L.length res u c' ∧ (if u = 0 then 0 else c'.length + 1) = c.length) := ⟨hV', hm'⟩
          subst hs
          obtain ⟨cl0, hcl0⟩ : ∃ m, m = c.length := ⟨_, rfl⟩
          have HM2 : Hid ((if u = 0 then 0 else c'.length + 1) ≤ cl0) := by rw [hcl0, ← hm']; exact Nat.le_refl _
          have hgk2 : cl0 < gk := by omega
          clear hV' hm' hcl0 hgk
          go_wp2_with fail
          go_roundg cl0
          case measure => omega
          case rel => exact ⟨u, c', rfl, HT1.out, HV2.out.1, HM2.out⟩
        · subst hs ha
          go_wp2_with fail
          go_ret
          exact ⟨rfl, HT1.out⟩
  · rw [if_neg hd0]
    have HFi : Hid (Calls Try.prog 74 #[rP b k, iV (d.root : Int)] w fun e w' => e = .returned (iV (d.first : Int)) ∧ w' = w) := first_any h d i hR hF (ne_nil_of_root hd0)
    have dd : ((d.root : Int) != 0) = true := by simp [hd0]
    generalize d.root = r at *
    clear h t1 hd hR hF hI hd0 hz h0
    go_enter Try.func72, Try.ntmps72
    go_wp2_with fail
    refine HFi.out.mono ?_
    rintro e w' ⟨rfl, hw'⟩
    rw [hw']
    clear hw'
    go_wp2_with fail
    go_ret
    exact ⟨rfl, Touch.refl _ _⟩
end Go.Proofs.Ytcolbgbmnmkogab
