/- Package seq's row: next. -/
import Derived.Test.YtcolbgbmnmkogaaSeqR9
import Derived.Test.YtcolbgbmnmkogaaPart3
namespace Go.Proofs.Ytcolbgbmnmkogaa
open Go.RowKit
set_option linter.unusedVariables false
set_option linter.unusedSimpArgs false
set_option maxRecDepth 100000

/-- The first one behind, on the way up. -/
def nextC : List Fr → Nat
  | [] => 0
  | .L u _ :: _ => u
  | .R _ _ :: c => nextC c
theorem nextC_head : ∀ c : List Fr, nextC c = (cr c).headD 0
  | [] => rfl
  | .L u r :: c => rfl
  | .R l u :: c => nextC_head c
theorem first_head : ∀ {t : Tr}, t ≠ .nil → ∃ l, t.flat = t.first :: l
  | .nil, h => absurd rfl h
  | .node .nil i r, _ => ⟨r.flat, rfl⟩
  | .node (.node a j b) i r, _ => by
    obtain ⟨l, hl⟩ := first_head (t := .node a j b) (by simp)
    exact ⟨l ++ i :: r.flat, by show (Tr.node a j b).flat ++ i :: r.flat = _; rw [hl]; rfl⟩
/-- Where next is, on its way up. -/
def InvN (A : Nat → Th) (n res x : Nat) (c : List Fr) : Prop :=
  (x = 0 ∧ c = [] ∧ res = 0) ∨ (x ≠ 0 ∧ x < n ∧ (A x).up = par c ∧ (∃ s, RepC A c x s) ∧ FitC c n ∧ x ∉ cl c ++ cr c ∧ (cl c ++ cr c).Nodup ∧ (A 0).d1 = topC c x ∧ nextC c = res)
theorem next_step {A : Nat → Th} {n res x : Nat} {c : List Fr} (h : InvN A n res x c) (hx : x ≠ 0) (hn : 0 < n) :
    x < n ∧ (A x).up < n ∧ ((sideA A x = 1 ∧ ∃ c', InvN A n res (A x).up c' ∧ (if (A x).up = 0 then 0 else c'.length + 1) = c.length) ∨ (sideA A x = 0 ∧ (A x).up = res)) := by
  rcases h with ⟨h, _⟩ | ⟨_, hxn, hup, ⟨s, hC⟩, hF, hxc, hN, htop, hres⟩
  · exact absurd h hx
  refine ⟨hxn, by rw [hup]; exact hF.par hn, ?_⟩
  cases c with
  | nil =>
    have e0 : (A x).up = 0 := hup
    have hs : sideA A x = 1 := by unfold sideA; rw [e0]; exact if_pos htop
    rw [e0]
    exact .inl ⟨hs, [], .inl ⟨rfl, rfl, hres.symm⟩, by simp⟩
  | cons f c =>
    have hpm := hF _ (par_mem (c := f :: c) (by simp))
    cases f with
    | L u r =>
      have eu : (A x).up = u := hup
      refine .inr ⟨?_, by rw [eu]; exact hres⟩
      unfold sideA
      rw [eu, hC.2.2.1, if_neg (root_ne (fun h => hxc (by simp [cl, cr, h])) hx)]
    | R l u =>
      have eu : (A x).up = u := hup
      have hu0 : u ≠ 0 := hpm.2
      obtain ⟨c1, c2, c3, c4, c5, c6⟩ := hC
      have hs : sideA A x = 1 := by unfold sideA; rw [eu]; exact if_pos c3
      rw [eu]
      have hn' : (cl c ++ (l.flat ++ [u]) ++ cr c).Nodup := by simpa [cl, cr] using hN
      have hnd := List.nodup_append.1 hn'
      have hnd1 := List.nodup_append.1 hnd.1
      refine .inl ⟨hs, c, .inr ⟨hu0, hpm.1, c1, ⟨_, c6⟩, hF.tail, fun h => ?_, List.nodup_append.2 ⟨hnd1.1, hnd.2.1, fun a ha b hb => hnd.2.2 a (by simp [ha]) b hb⟩, htop, hres⟩, by rw [if_neg hu0]; rfl⟩
      rcases List.mem_append.1 h with h | h
      · exact hnd1.2.2 u h u (by simp) rfl
      · exact hnd.2.2 u (by simp) u h rfl
set_option maxHeartbeats 8000000 in
theorem next_any {w : World} {b k g cap : Nat} {L : List Th} (h : Things w b k g cap L) (i : Nat) (d : Tr) (c : List Fr) (res : Nat) (hi : i < L.length) (h0 : 0 < L.length) (hz : (gt L 0).up = 0) (hd : (gt L i).d1 = d.root) (hR : Rep (gt L) i d) (hF : d.Fits L.length) (hI : InvN (gt L) L.length res i c) :
    Calls Try.prog 82 #[rP b k, iV (i : Int)] w fun e w' => e = .returned (iV ((if d.root = 0 then res else d.first : Nat) : Int)) ∧ Touch (fun _ => False) w w' := by
  have HK : Hid (∀ W, Touch (fun _ => False) w W → Things W b k g cap L) := fun W t => h.keep t id id
  have t1 := h.th i hi
  rw [← gt_of hi] at t1
  have q2 := t1.c2
  rw [hd] at q2
  have hc := h.cell
  have li : (i : Int) < (L.length : Int) := by omega
  have li0 : (0 : Int) ≤ (i : Int) := by omega
  by_cases hd0 : d.root = 0
  · rw [if_pos hd0]
    rw [hd0] at q2
    have HI : Hid (InvN (gt L) L.length res i c) := hI
    have HZ : Hid ((gt L 0).up = 0 ∧ 0 < L.length) := ⟨hz, h0⟩
    clear h t1 hd hR hF hI hd0 hz h0
    go_enter Try.func82, Try.ntmps82
    go_wp2_with fail
    clear q2 hc
    go_loopg [1] (c.length + 1) (fun gk s1 wx => ∃ (x : Nat) (c : List Fr), s1 = iV (x : Int) ∧ Hid (Touch (fun _ => False) w wx) ∧ Hid (InvN (gt L) L.length res x c) ∧ Hid ((if x = 0 then 0 else c.length + 1) ≤ gk))
    case atStart => exact ⟨i, c, rfl, Touch.refl _ _, HI.out, by show _ ≤ _; split <;> omega⟩
    case round =>
      obtain ⟨x, c, rfl, HT, HV, HM⟩ := hrel
      obtain ⟨X0, hX0⟩ : ∃ X, X = wr := ⟨_, rfl⟩
      subst hX0
      by_cases hx : x = 0
      · subst hx
        have HE : Hid (res = 0) := by
          rcases HV.out with ⟨_, _, h⟩ | ⟨h, _⟩
          · exact h
          · exact absurd rfl h
        have t1 := (HK.out X0 HT.out).th 0 HZ.out.2
        rw [← gt_of HZ.out.2] at t1
        have q0 := t1.c0
        rw [HZ.out.1] at q0
        have q0' : X0.cell? ⟨g, 0, none⟩ = some (iV 0) := by simpa using q0
        have hc := (HK.out X0 HT.out).cell
        have ll : (0 : Int) < (L.length : Int) := by have := HZ.out.2; omega
        clear t1 q0
        go_wp2_with fail
        go_ret
        exact ⟨by rw [HE.out]; rfl, HT.out⟩
      · have e0 : ((x : Int) != 0) = true := by simp [hx]
        obtain ⟨hxn, hun, hcase⟩ := next_step HV.out hx HZ.out.2
        have hmm : (if x = 0 then 0 else c.length + 1) = c.length + 1 := if_neg hx
        have hgk : c.length + 1 ≤ gk := by rw [← hmm]; exact HM.out
        have HSd : Hid (∀ W, Touch (fun _ => False) w W → Calls Try.prog 70 #[rP b k, iV (x : Int)] W fun e w' => e = .returned (iV (sideA (gt L) x : Int)) ∧ Touch (fun _ => False) W w') := fun W t => by
          have e1 : (gt L x).up = (L[x]'hxn).up := by rw [gt_of hxn]
          have hun' : (L[x]'hxn).up < L.length := by rw [← e1]; exact hun
          refine (side_any (HK.out W t) x hxn hun').mono ?_
          rintro e w' ⟨rfl, t⟩
          refine ⟨?_, t⟩
          have : (if (L[L[x].up]'hun').d1 = x then (1 : Int) else 0) = (sideA (gt L) x : Int) := by
            unfold sideA
            rw [gt_of hxn, gt_of hun']
            split <;> rfl
          rw [this]
        have HCl : Hid (∀ W, Touch (fun _ => False) w W → W.cell? ⟨b, k, none⟩ = some (.slice (some ⟨g, 0, none⟩) L.length cap) ∧ W.cell? ⟨g, x * 5, none⟩ = some (iV ((gt L x).up : Int))) := fun W t => by
          have t1 := (HK.out W t).th x hxn
          rw [← gt_of hxn] at t1
          exact ⟨(HK.out W t).cell, t1.c0⟩
        have lx : (x : Int) < (L.length : Int) := by omega
        have lx0 : (0 : Int) ≤ (x : Int) := by omega
        clear HV HM hmm hxn hun
        generalize (gt L x).up = u at *
        generalize sideA (gt L) x = sd at *
        go_wp2_with fail
        refine (HSd.out _ HT.out).mono ?_
        rintro e X1 ⟨rfl, t⟩
        have HT1 : Hid (Touch (fun _ => False) w X1) := HT.out.trans t
        clear t HT HSd
        have kc := (HCl.out X1 HT1.out).1
        have kx := (HCl.out X1 HT1.out).2
        rcases hcase with ⟨hs, c', hV', hm'⟩ | ⟨hs, ha⟩
        · have HV2 : Hid (InvN (gt L) L.length res u c' ∧ (if u = 0 then 0 else c'.length + 1) = c.length) := ⟨hV', hm'⟩
          subst hs
          obtain ⟨cl0, hcl0⟩ : ∃ m, m = c.length := ⟨_, rfl⟩
          have HM2 : Hid ((if u = 0 then 0 else c'.length + 1) ≤ cl0) := by rw [hcl0, ← hm']; exact Nat.le_refl _
          have hgk2 : cl0 < gk := by omega
          clear hV' hm' hcl0 hgk
          go_wp2_with fail
          go_roundg cl0
          case measure => omega
          case rel => exact ⟨u, c', rfl, HT1.out, HV2.out.1, HM2.out⟩
        · subst hs ha
          go_wp2_with fail
          go_ret
          exact ⟨rfl, HT1.out⟩
  · rw [if_neg hd0]
    have HFi : Hid (Calls Try.prog 78 #[rP b k, iV (d.root : Int)] w fun e w' => e = .returned (iV (d.first : Int)) ∧ w' = w) := first_any h d i hR hF (ne_nil_of_root hd0)
    have dd : ((d.root : Int) != 0) = true := by simp [hd0]
    generalize d.root = r at *
    clear h t1 hd hR hF hI hd0 hz h0
    go_enter Try.func82, Try.ntmps82
    go_wp2_with fail
    refine HFi.out.mono ?_
    rintro e w' ⟨rfl, hw'⟩
    rw [hw']
    clear hw'
    go_wp2_with fail
    go_ret
    exact ⟨rfl, Touch.refl _ _⟩
end Go.Proofs.Ytcolbgbmnmkogaa

/- Trees whose nodes are things of an array: a new leaf. -/
namespace Go.Proofs.Ytcolbgbmnmkogaa
set_option linter.unusedVariables false
set_option linter.unusedSimpArgs false

/-- A thing that isn't in the tree, and has nothing yet. -/
structure Fresh (A : Nat → Th) (n : Nat) (l : List Nat) : Prop where
  n0 : n ≠ 0
  nl : n ∉ l
  th : A n = ⟨0, 0, 0, 0, 0⟩
theorem hang_facts {A : Nat → Th} {u s n : Nat} {l : List Nat} (hF : Fresh A n l) (hu : u ≠ n) : hangA A u s n u = (A u).put (1 + s) (n : Int) ∧ hangA A u s n n = ⟨u, 0, 0, 0, 0⟩ ∧ ∀ j, j ≠ u → j ≠ n → hangA A u s n j = A j := by
  refine ⟨hangA_up hu, ?_, fun j h1 h2 => hangA_ne h1 (fun _ => h2)⟩
  rw [hangA_it hu hF.n0, hF.th]
  simp [Th.put]
/-- On the back of one that has nothing there. -/
theorem leaf_back {A : Nat → Th} {c : List Fr} {a : Tr} {u n : Nat} (H : Rep A 0 (plug c (.node a u .nil))) (N : (plug c (.node a u .nil)).flat.Nodup) (hF : Fresh A n (plug c (.node a u .nil)).flat) :
    Rep (hangA A u 1 n) 0 (plug (.R a u :: c) (.node .nil n .nil)) := by
  rw [flat_plug] at N
  have hnl := hF.nl
  rw [flat_plug] at hnl
  have n1 : (cl c ++ (a.flat ++ u :: []) ++ cr c).Nodup := N
  have hnd := List.nodup_append.1 n1
  have hnd1 := List.nodup_append.1 hnd.1
  have hnd2 := List.nodup_append.1 hnd1.2.1
  have un : u ≠ n := fun e => hnl (by rw [← e]; simp [Tr.flat])
  obtain ⟨f1, f2, f3⟩ := hang_facts (s := 1) hF un
  obtain ⟨hC, i1, i2, i3, i4, i5, i6⟩ := (rep_plug A c (.node a u .nil)).1 H
  have ua : u ∉ a.flat := fun h => hnd2.2.2 u h u (by simp) rfl
  have uc : u ∉ cl c ++ cr c := fun h => by
    rcases List.mem_append.1 h with h | h
    · exact hnd1.2.2 u h u (by simp) rfl
    · exact hnd.2.2 u (by simp) u h rfl
  have ga : ∀ x ∈ a.flat, A x = hangA A u 1 n x := fun x hx => (f3 x (fun e => ua (e ▸ hx)) (fun e => hnl (by rw [← e]; simp [Tr.flat, hx]))).symm
  have sa := Tr.sum_congr (A := A) (B := hangA A u 1 n) (t := a) fun x hx => by rw [ga x hx]
  have fu : hangA A u 1 n u = { A u with d1 := n } := by rw [f1]; simp [Th.put]
  refine (rep_plug _ (.R a u :: c) _).2 ⟨⟨by rw [fu]; exact i1, by rw [fu]; exact i2, by rw [fu]; rfl, ?_, Rep.congr ga i5, ?_⟩, ⟨by rw [f2]; rfl, by rw [f2]; rfl, by rw [f2]; rfl, by rw [f2]; rfl, trivial, trivial⟩⟩
  · rw [fu, ← sa]
    simp only [Tr.sum, f2]
    have := i4
    simp only [Tr.sum] at this
    omega
  · have e : a.sum (hangA A u 1 n) + (hangA A u 1 n u).long + (Tr.node .nil n .nil).sum (hangA A u 1 n) = (Tr.node a u .nil).sum A := by
      rw [fu, ← sa]
      simp only [Tr.sum, f2]
      omega
    rw [e]
    exact RepC.congr (fun x hx => (f3 x (fun e => uc (e ▸ hx)) (fun e => hnl (by rw [← e]; rcases List.mem_append.1 hx with hx | hx <;> simp [hx]))).symm) hC
/-- On the front of one that has nothing there. -/
theorem leaf_front {A : Nat → Th} {c : List Fr} {a : Tr} {u n : Nat} (H : Rep A 0 (plug c (.node .nil u a))) (N : (plug c (.node .nil u a)).flat.Nodup) (hF : Fresh A n (plug c (.node .nil u a)).flat) :
    Rep (hangA A u 0 n) 0 (plug (.L u a :: c) (.node .nil n .nil)) := by
  rw [flat_plug] at N
  have hnl := hF.nl
  rw [flat_plug] at hnl
  have n1 : (cl c ++ (u :: a.flat) ++ cr c).Nodup := N
  have hnd := List.nodup_append.1 n1
  have hnd1 := List.nodup_append.1 hnd.1
  have hnd2 := List.nodup_cons.1 hnd1.2.1
  have un : u ≠ n := fun e => hnl (by rw [← e]; simp [Tr.flat])
  obtain ⟨f1, f2, f3⟩ := hang_facts (s := 0) hF un
  obtain ⟨hC, i1, i2, i3, i4, i5, i6⟩ := (rep_plug A c (.node .nil u a)).1 H
  have ua : u ∉ a.flat := hnd2.1
  have uc : u ∉ cl c ++ cr c := fun h => by
    rcases List.mem_append.1 h with h | h
    · exact hnd1.2.2 u h u (by simp) rfl
    · exact hnd.2.2 u (by simp) u h rfl
  have ga : ∀ x ∈ a.flat, A x = hangA A u 0 n x := fun x hx => (f3 x (fun e => ua (e ▸ hx)) (fun e => hnl (by rw [← e]; simp [Tr.flat, hx]))).symm
  have sa := Tr.sum_congr (A := A) (B := hangA A u 0 n) (t := a) fun x hx => by rw [ga x hx]
  have fu : hangA A u 0 n u = { A u with d0 := n } := by rw [f1]; simp [Th.put]
  refine (rep_plug _ (.L u a :: c) _).2 ⟨⟨by rw [fu]; exact i1, by rw [fu]; rfl, by rw [fu]; exact i3, ?_, Rep.congr ga i6, ?_⟩, ⟨by rw [f2]; rfl, by rw [f2]; rfl, by rw [f2]; rfl, by rw [f2]; rfl, trivial, trivial⟩⟩
  · rw [fu, ← sa]
    simp only [Tr.sum, f2]
    have := i4
    simp only [Tr.sum] at this
    omega
  · have e : (Tr.node .nil n .nil).sum (hangA A u 0 n) + (hangA A u 0 n u).long + a.sum (hangA A u 0 n) = (Tr.node .nil u a).sum A := by
      rw [fu, ← sa]
      simp only [Tr.sum, f2]
      omega
    rw [e]
    exact RepC.congr (fun x hx => (f3 x (fun e => uc (e ▸ hx)) (fun e => hnl (by rw [← e]; rcases List.mem_append.1 hx with hx | hx <;> simp [hx]))).symm) hC
/-- As they stand: the new one right behind u, or right ahead. -/
theorem flat_leaf_back (c : List Fr) (a : Tr) (u n : Nat) : (plug (.R a u :: c) (.node .nil n .nil)).flat = cl c ++ (a.flat ++ [u]) ++ n :: cr c ∧ (plug c (.node a u .nil)).flat = cl c ++ (a.flat ++ [u]) ++ cr c := by
  constructor
  · rw [flat_plug]; simp [cl, cr, Tr.flat]
  · rw [flat_plug]; simp [Tr.flat]
theorem flat_leaf_front (c : List Fr) (a : Tr) (u n : Nat) : (plug (.L u a :: c) (.node .nil n .nil)).flat = cl c ++ n :: (u :: a.flat ++ cr c) ∧ (plug c (.node .nil u a)).flat = cl c ++ (u :: a.flat ++ cr c) := by
  constructor
  · rw [flat_plug]; simp [cl, cr, Tr.flat]
  · rw [flat_plug]; simp [Tr.flat]
/-- Lifts change nothing of how they stand. -/
theorem flat_lift (c : List Fr) (a b r : Tr) (i u : Nat) : (plug c (.node a i (.node b u r))).flat = (plug (.L u r :: c) (.node a i b)).flat ∧ (plug c (.node (.node r u a) i b)).flat = (plug (.R r u :: c) (.node a i b)).flat := by
  constructor
  · rw [flat_plug, flat_plug]; simp [cl, cr, Tr.flat]
  · rw [flat_plug, flat_plug]; simp [cl, cr, Tr.flat]
end Go.Proofs.Ytcolbgbmnmkogaa
