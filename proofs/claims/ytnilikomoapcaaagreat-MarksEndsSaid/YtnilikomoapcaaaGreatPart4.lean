/- Package seq's row: at. -/
import Derived.Test.YtnilikomoapcaaaGreatPart3
namespace Go.Proofs.YtnilikomoapcaaaGreat
open Go.RowKit
set_option linter.unusedVariables false
set_option linter.unusedSimpArgs false
set_option maxRecDepth 100000

/-- The thing over a place, and how much of it is ahead. -/
def atT (A : Nat → Th) : Tr → Int → Nat × Int
  | .nil, _ => (0, 0)
  | .node l i r, p => if p - l.sum A < 0 then atT A l p else if p - l.sum A < (A i).long then (i, p - l.sum A) else atT A r (p - l.sum A - (A i).long)
theorem atT_node (A : Nat → Th) (l : Tr) (i : Nat) (r : Tr) (p : Int) : atT A (.node l i r) p = if p - l.sum A < 0 then atT A l p else if p - l.sum A < (A i).long then (i, p - l.sum A) else atT A r (p - l.sum A - (A i).long) := rfl
set_option maxHeartbeats 8000000 in
theorem at_any {w : World} {b k g cap : Nat} {L : List Th} (h : Things w b k g cap L) (t : Tr) (hR : Rep (gt L) 0 t) (hF : t.Fits L.length) (h0 : 0 < L.length) (hd : (gt L 0).d1 = t.root) (hw0 : (gt L 0).whole = 0) (hT : Tame (gt L)) (p : Int) (hp : -4611686018427387904 ≤ p ∧ p ≤ 4611686018427387904) :
    Calls Tryz.prog 70 #[rP b k, iV p] w fun e w' => e = .returned (.tuple #[iV ((atT (gt L) t p).1 : Int), iV (atT (gt L) t p).2]) ∧ Touch (fun _ => False) w w' := by
  have HTop : Hid (Calls Tryz.prog 69 #[rP b k] w fun e w' => e = .returned (iV (t.root : Int)) ∧ w' = w) := by
    have := top_any h h0
    rw [← gt_of h0, hd] at this
    exact this
  have HK : Hid (∀ W, Touch (fun _ => False) w W → Things W b k g cap L) := fun W t => h.keep t id id
  have HR : Hid (Rep (gt L) 0 t ∧ t.Fits L.length) := ⟨hR, hF⟩
  have HW0 : Hid ((gt L 0).whole = 0 ∧ 0 < L.length) := ⟨hw0, h0⟩
  have HTm : Hid (Tame (gt L)) := hT
  obtain ⟨i, hi⟩ : ∃ i, Hid (i = t.root) := ⟨_, Eq.refl _⟩
  obtain ⟨r1, hr1⟩ : ∃ r, Hid (r = (atT (gt L) t p).1) := ⟨_, Eq.refl _⟩
  obtain ⟨r2, hr2⟩ : ∃ r, Hid (r = (atT (gt L) t p).2) := ⟨_, Eq.refl _⟩
  rw [← hi.out] at HTop
  rw [← hr1.out, ← hr2.out]
  clear h hR hF h0 hd hw0 hT
  go_enter Tryz.func70, Tryz.ntmps70
  go_wp2_with fail
  refine HTop.out.mono ?_
  rintro e w' ⟨rfl, hw'⟩
  rw [hw']
  clear hw' HTop
  go_wp2_with fail
  go_loopg [1, 4] t.size (fun gk s1 s4 wx => ∃ (x q : Nat) (pl : Int) (u : Tr), s1 = iV pl ∧ s4 = iV (x : Int) ∧ (-4611686018427387904 ≤ pl ∧ pl ≤ 4611686018427387904) ∧ Hid (Touch (fun _ => False) w wx) ∧ Hid (u.size = gk ∧ x = u.root ∧ Rep (gt L) q u ∧ u.Fits L.length ∧ r1 = (atT (gt L) u pl).1 ∧ r2 = (atT (gt L) u pl).2))
  case atStart => exact ⟨i, 0, p, t, rfl, rfl, hp, Touch.refl _ _, rfl, hi.out, HR.out.1, HR.out.2, hr1.out, hr2.out⟩
  case round =>
    obtain ⟨x, q, pl, u, rfl, rfl, hpl, HT, HU⟩ := hrel
    obtain ⟨X0, hX0⟩ : ∃ X, X = wr := ⟨_, rfl⟩
    subst hX0
    obtain ⟨hs, hx, hRu, hFu, hu1, hu2⟩ := HU.out
    cases u with
    | nil =>
      have hx0 : x = 0 := hx
      have h1 : r1 = 0 := hu1
      have h2 : r2 = 0 := hu2
      subst hx0 h1 h2
      clear HU hs hRu hFu hu1 hu2 hx
      go_wp2_with fail
      go_ret2
      exact ⟨rfl, HT.out⟩
    | node l y r =>
      have hxy : x = y := hx
      subst hxy
      obtain ⟨hl, hy, hr⟩ := hFu.node
      have hTh := HK.out X0 HT.out
      have t1 := hTh.th x hy.1
      rw [← gt_of hy.1] at t1
      have q0 := t1.c0
      have q1 := t1.c1
      have q2 := t1.c2
      have q3 := t1.c3
      have q4 := t1.c4
      have hc := hTh.cell
      have lx : (x : Int) < (L.length : Int) := by omega
      have lx0 : (0 : Int) ≤ (x : Int) := by omega
      have xx : ((x : Int) != 0) = true := by simp [hy.2]
      have hrl := hl.root HW0.out.2
      have hrr := hr.root HW0.out.2
      have ll : (l.root : Int) < (L.length : Int) := by omega
      have ll0 : (0 : Int) ≤ (l.root : Int) := by omega
      have hsl : (gt L l.root).whole = l.sum (gt L) := hRu.2.2.2.2.1.whole HW0.out.1
      have tm := HTm.out l.root
      have tm2 := HTm.out x
      rw [hsl] at tm
      rw [hRu.2.1] at q1
      rw [hRu.2.2.1] at q2
      have HSl : Hid (∀ W, Touch (fun _ => False) w W → W.cell? ⟨g, l.root * 5 + 4, none⟩ = some (iV (l.sum (gt L))) ∧ W.cell? ⟨b, k, none⟩ = some (.slice (some ⟨g, 0, none⟩) L.length cap)) := fun W t => by
        have h9 := (HK.out W t).th l.root hrl
        rw [← gt_of hrl] at h9
        have h8 := h9.c4
        rw [hsl] at h8
        exact ⟨h8, (HK.out W t).cell⟩
      obtain ⟨a, ha⟩ : ∃ a, Hid (a = l.root) := ⟨_, Eq.refl _⟩
      obtain ⟨c, hcr⟩ : ∃ c, Hid (c = r.root) := ⟨_, Eq.refl _⟩
      obtain ⟨sm, hsm⟩ : ∃ sm, Hid (sm = l.sum (gt L)) := ⟨_, Eq.refl _⟩
      obtain ⟨lg, hlg⟩ : ∃ lg, Hid (lg = (gt L x).long) := ⟨_, Eq.refl _⟩
      obtain ⟨up, hup⟩ : ∃ up, Hid (up = (gt L x).up) := ⟨_, Eq.refl _⟩
      obtain ⟨wh, hwh⟩ : ∃ wh, Hid (wh = (gt L x).whole) := ⟨_, Eq.refl _⟩
      rw [← hup.out] at q0
      rw [← ha.out] at q1 ll ll0 HSl
      rw [← hcr.out] at q2
      rw [← hlg.out] at q3 tm2
      rw [← hwh.out] at q4
      rw [← hsm.out] at tm HSl
      have HE : Hid ((pl - sm < 0 → r1 = (atT (gt L) l pl).1 ∧ r2 = (atT (gt L) l pl).2) ∧ (¬ pl - sm < 0 → pl - sm < lg → r1 = x ∧ r2 = pl - sm) ∧ (¬ pl - sm < 0 → ¬ pl - sm < lg → r1 = (atT (gt L) r (pl - sm - lg)).1 ∧ r2 = (atT (gt L) r (pl - sm - lg)).2)) := by
        rw [hu1, hu2, hsm.out, hlg.out, atT_node]
        refine ⟨fun h => ?_, fun h h' => ?_, fun h h' => ?_⟩
        · rw [if_pos h]; exact ⟨rfl, rfl⟩
        · rw [if_neg h, if_pos h']; exact ⟨rfl, rfl⟩
        · rw [if_neg h, if_neg h']; exact ⟨rfl, rfl⟩
      have HU2 : Hid (l.size < gk ∧ r.size < gk ∧ Rep (gt L) x l ∧ Rep (gt L) x r ∧ l.Fits L.length ∧ r.Fits L.length) := by
        rw [← hs]
        simp only [Tr.size]
        exact ⟨by omega, by omega, hRu.2.2.2.2.1, hRu.2.2.2.2.2, hl, hr⟩
      have e1 : IntKind.i64.wrap (pl - sm) = pl - sm := by rw [IntKind.wrap_i64]; omega
      have e2 : IntKind.i64.wrap (pl - sm - lg) = pl - sm - lg := by rw [IntKind.wrap_i64]; omega
      have e3 : IntKind.i64.wrap (pl - sm + sm) = pl := by rw [IntKind.wrap_i64]; omega
      clear HU hs hRu hFu hu1 hu2 hx hl hy hr t1 hTh hrl hrr hsl hlg hup hwh hsm
      go_upto_region 4 with fail
      obtain ⟨X1, hX1⟩ : ∃ W, Hid (W = X0.alloc (.cells #[iV (up : Int), iV (a : Int), iV (c : Int), iV lg, iV wh] 111)) := ⟨_, Eq.refl _⟩
      have HT1 : Hid (Touch (fun _ => False) w X1 ∧ X1.heap[X0.heap.size]? = some (.cells #[iV (up : Int), iV (a : Int), iV (c : Int), iV lg, iV wh] 111)) := by rw [hX1.out]; exact ⟨HT.out.alloc _, heap_alloc_new _ _⟩
      first | rw [← hX1.out] | skip
      clear hX1 HT hc q0 q1 q2 q3 q4
      obtain ⟨B, hB⟩ : ∃ B, Hid (B = X0.heap.size) := ⟨_, Eq.refl _⟩
      rw [← hB.out] at HT1 ⊢
      have k1 : X1.cell? ⟨B, 1, none⟩ = some (iV (a : Int)) := by rw [cell_of_block HT1.out.2]; rfl
      have k2 : X1.cell? ⟨B, 2, none⟩ = some (iV (c : Int)) := by rw [cell_of_block HT1.out.2]; rfl
      have k3 : X1.cell? ⟨B, 3, none⟩ = some (iV lg) := by rw [cell_of_block HT1.out.2]; rfl
      obtain ⟨k4, k5⟩ := HSl.out X1 HT1.out.1
      go_quiet (fail)
      clear k1 k2 k3 k4 k5
      have HT2 : Hid (Touch (fun _ => False) w (X1.drewN nq) ∧ (X1.drewN nq).heap[B]? = some (.cells #[iV (up : Int), iV (a : Int), iV (c : Int), iV lg, iV wh] 111)) := ⟨⟨HT1.out.1.os, HT1.out.1.tape, HT1.out.1.output, HT1.out.1.size, HT1.out.1.block⟩, HT1.out.2⟩
      generalize X1.drewN nq = X2 at *
      clear HT1
      have k1 : X2.cell? ⟨B, 1, none⟩ = some (iV (a : Int)) := by rw [cell_of_block HT2.out.2]; rfl
      have k2 : X2.cell? ⟨B, 2, none⟩ = some (iV (c : Int)) := by rw [cell_of_block HT2.out.2]; rfl
      have k3 : X2.cell? ⟨B, 3, none⟩ = some (iV lg) := by rw [cell_of_block HT2.out.2]; rfl
      obtain ⟨k4, k5⟩ := HSl.out X2 HT2.out.1
      by_cases hA : pl - sm < 0
      · have HE1 : Hid (r1 = (atT (gt L) l pl).1 ∧ r2 = (atT (gt L) l pl).2) := HE.out.1 hA
        obtain ⟨m, hm⟩ : ∃ m, m = l.size := ⟨_, rfl⟩
        have hmg : m < gk := by rw [hm]; exact HU2.out.1
        have HM : Hid (l.size = m) := hm.symm
        clear HE hm
        go_upto_region 8 with fail
        go_quiet (fail)
        have HT3 : Hid (Touch (fun _ => False) w (X2.drewN nq) ∧ (X2.drewN nq).heap[B]? = some (.cells #[iV (up : Int), iV (a : Int), iV (c : Int), iV lg, iV wh] 111)) := ⟨⟨HT2.out.1.os, HT2.out.1.tape, HT2.out.1.output, HT2.out.1.size, HT2.out.1.block⟩, HT2.out.2⟩
        clear k1 k2 k3 k4 k5
        generalize X2.drewN nq = X3 at *
        clear HT2
        have k1 : X3.cell? ⟨B, 1, none⟩ = some (iV (a : Int)) := by rw [cell_of_block HT3.out.2]; rfl
        go_wp2_with fail
        go_roundg m
        case measure => omega
        case rel => exact ⟨a, x, pl, l, rfl, rfl, hpl, HT3.out.1, HM.out, ha.out, HU2.out.2.2.1, HU2.out.2.2.2.2.1, HE1.out⟩
      · have hA' : ¬ pl - sm < 0 := hA
        by_cases hB2 : pl - sm < lg
        · have HE1 : Hid (r1 = x ∧ r2 = pl - sm) := HE.out.2.1 hA hB2
          clear HE
          go_wp2_with fail
          go_ret2
          exact ⟨by rw [HE1.out.1, HE1.out.2]; rfl, HT2.out.1⟩
        · have HE1 : Hid (r1 = (atT (gt L) r (pl - sm - lg)).1 ∧ r2 = (atT (gt L) r (pl - sm - lg)).2) := HE.out.2.2 hA hB2
          obtain ⟨m, hm⟩ : ∃ m, m = r.size := ⟨_, rfl⟩
          have hmg : m < gk := by rw [hm]; exact HU2.out.2.1
          have HM : Hid (r.size = m) := hm.symm
          have hpl2 : -4611686018427387904 ≤ pl - sm - lg ∧ pl - sm - lg ≤ 4611686018427387904 := by omega
          clear HE hm
          go_wp2_with fail
          go_roundg m
          case measure => omega
          case rel => exact ⟨c, x, pl - sm - lg, r, rfl, rfl, hpl2, HT2.out.1, HM.out, hcr.out, HU2.out.2.2.2.1, HU2.out.2.2.2.2.2, HE1.out⟩
end Go.Proofs.YtnilikomoapcaaaGreat

/- Package seq's row: ahead. -/
namespace Go.Proofs.YtnilikomoapcaaaGreat
open Go.RowKit
set_option linter.unusedVariables false
set_option linter.unusedSimpArgs false
set_option maxRecDepth 100000

/-- How long all things ahead are, on the way up. -/
def sumC (A : Nat → Th) : List Fr → Int
  | [] => 0
  | .L _ _ :: c => sumC A c
  | .R l u :: c => sumC A c + (l.sum A + (A u).long)
theorem ThAt.range {w : World} {g i : Nat} {t : Th} (h : ThAt w g i t) : w.rangeAt g (i * 5) [iV t.up, iV t.d0, iV t.d1, iV t.long, iV t.whole] := by
  intro j v hv
  match j, hv with
  | 0, hv => have := h.c0; simpa using hv ▸ this
  | 1, hv => have := h.c1; simpa using hv ▸ this
  | 2, hv => have := h.c2; simpa using hv ▸ this
  | 3, hv => have := h.c3; simpa using hv ▸ this
  | 4, hv => have := h.c4; simpa using hv ▸ this
  | j + 5, hv => simp at hv
def SAhd (b k g cap n x u : Nat) (t : Th) (W : World) : Prop := W.cell? ⟨b, k, none⟩ = some (.slice (some ⟨g, 0, none⟩) n cap) ∧ W.cell? ⟨g, x * 5, none⟩ = some (iV (u : Int)) ∧ W.rangeAt g (u * 5) [iV t.up, iV t.d0, iV t.d1, iV t.long, iV t.whole]
/-- The labels of the way up are in the array. -/
def FitC (c : List Fr) (n : Nat) : Prop := ∀ x ∈ cl c ++ cr c, x < n ∧ x ≠ 0
theorem FitC.tail {f : Fr} {c : List Fr} {n : Nat} (h : FitC (f :: c) n) : FitC c n := fun x hx => h x (by
  cases f <;> (simp only [cl, cr, List.mem_append, List.mem_cons] at hx ⊢; rcases hx with hx | hx <;> simp [hx]))
theorem FitC.par {c : List Fr} {n : Nat} (h : FitC c n) (h0 : 0 < n) : par c < n := by
  cases c with
  | nil => exact h0
  | cons f c => exact (h _ (par_mem (by simp))).1
def topC : List Fr → Nat → Nat
  | [], i => i
  | .L u _ :: c, _ => topC c u
  | .R _ u :: c, _ => topC c u
theorem root_plug : ∀ (c : List Fr) (t : Tr), (plug c t).root = topC c t.root
  | [], _ => rfl
  | .L u r :: c, t => root_plug c (.node t u r)
  | .R l u :: c, t => root_plug c (.node l u t)
theorem Tr.sum_nn {A : Nat → Th} (h : ∀ j, 0 ≤ (A j).long) : ∀ t : Tr, 0 ≤ t.sum A
  | .nil => Int.le_refl _
  | .node l i r => by
    have h1 := Tr.sum_nn h l
    have h2 := Tr.sum_nn h r
    have h3 := h i
    simp only [Tr.sum]
    omega
theorem sumC_nn {A : Nat → Th} (h : ∀ j, 0 ≤ (A j).long) : ∀ c : List Fr, 0 ≤ sumC A c
  | [] => Int.le_refl _
  | .L u r :: c => sumC_nn h c
  | .R l u :: c => by
    have h1 := sumC_nn h c
    have h2 := Tr.sum_nn h l
    have h3 := h u
    simp only [sumC]
    omega
/-- Where ahead is, on its way up. -/
def InvA (A : Nat → Th) (n : Nat) (total : Int) (x : Nat) (c : List Fr) (acc : Int) : Prop :=
  0 ≤ acc ∧ acc ≤ total ∧ ((x = 0 ∧ c = [] ∧ acc = total) ∨ (x ≠ 0 ∧ x < n ∧ (A x).up = par c ∧ (∃ s, RepC A c x s) ∧ FitC c n ∧ (cl c ++ cr c).Nodup ∧ x ∉ cl c ++ cr c ∧ (A 0).d1 = topC c x ∧ acc + sumC A c = total))
theorem ahead_step {A : Nat → Th} {n : Nat} {total acc : Int} {x : Nat} {c : List Fr} (h : InvA A n total x c acc) (hx : x ≠ 0) (hn : 0 < n) (h0 : (A 0).d0 = 0 ∧ (A 0).long = 0 ∧ (A 0).whole = 0) (hT : ∀ j, 0 ≤ (A j).long) :
    x < n ∧ (A x).up < n ∧ (A (A x).up).d0 < n ∧ ∃ c' acc', InvA A n total (A x).up c' acc' ∧ (if (A x).up = 0 then 0 else c'.length + 1) = c.length ∧ ((sideA A x = 0 ∧ acc' = acc) ∨ (sideA A x = 1 ∧ acc' = acc + ((A (A (A x).up).d0).whole + (A (A x).up).long))) := by
  obtain ⟨p1, p2, h⟩ := h
  rcases h with ⟨h, _⟩ | ⟨_, hxn, hup, ⟨s, hC⟩, hF, hN, hxc, htop, hacc⟩
  · exact absurd h hx
  refine ⟨hxn, by rw [hup]; exact hF.par hn, ?_⟩
  cases c with
  | nil =>
    have e0 : (A x).up = 0 := hup
    have hs : sideA A x = 1 := by unfold sideA; rw [e0]; exact if_pos htop
    have ha : acc = total := by simpa [sumC] using hacc
    rw [e0, h0.1, h0.2.1, h0.2.2]
    refine ⟨hn, [], acc, ⟨p1, p2, .inl ⟨rfl, rfl, ha⟩⟩, by simp, .inr ⟨hs, by omega⟩⟩
  | cons f c =>
    have hpm := hF _ (par_mem (c := f :: c) (by simp))
    cases f with
    | L u r =>
      have eu : (A x).up = u := hup
      have hu0 : u ≠ 0 := hpm.2
      obtain ⟨c1, c2, c3, c4, c5, c6⟩ := hC
      have hs : sideA A x = 0 := by
        unfold sideA
        rw [eu, c3, if_neg (root_ne (fun h => hxc (by simp [cl, cr, h])) hx)]
      rw [eu]
      have hn' : (cl c ++ (u :: r.flat ++ cr c)).Nodup := by simpa [cl, cr] using hN
      have hnd := List.nodup_append.1 hn'
      have hnd2 := List.nodup_append.1 hnd.2.1
      refine ⟨by rw [c2]; exact hxn, c, acc, ⟨p1, p2, .inr ⟨hu0, hpm.1, c1, ⟨_, c6⟩, hF.tail, List.nodup_append.2 ⟨hnd.1, hnd2.2.1, fun a ha b hb => hnd.2.2 a ha b (by simp [hb])⟩, fun h => ?_, htop, hacc⟩⟩, by rw [if_neg hu0]; rfl, .inl ⟨hs, rfl⟩⟩
      rcases List.mem_append.1 h with h | h
      · exact hnd.2.2 u h u (by simp) rfl
      · exact hnd2.2.2 u (by simp) u h rfl
    | R l u =>
      have eu : (A x).up = u := hup
      have hu0 : u ≠ 0 := hpm.2
      obtain ⟨c1, c2, c3, c4, c5, c6⟩ := hC
      have hs : sideA A x = 1 := by unfold sideA; rw [eu]; exact if_pos c3
      have hlr : l.root < n := by
        cases l with
        | nil => exact hn
        | node p q v => exact (hF q (by simp [cl, cr, Tr.flat])).1
      have hwl : (A (A u).d0).whole = l.sum A := by rw [c2]; exact c5.whole h0.2.2
      rw [eu, hwl]
      have hn' : (cl c ++ (l.flat ++ [u]) ++ cr c).Nodup := by simpa [cl, cr] using hN
      have hnd := List.nodup_append.1 hn'
      have hnd1 := List.nodup_append.1 hnd.1
      have hnn := sumC_nn hT c
      have h2 := Tr.sum_nn hT l
      have h3 := hT u
      have hacc' : acc + (sumC A c + (l.sum A + (A u).long)) = total := hacc
      refine ⟨by rw [c2]; exact hlr, c, acc + (l.sum A + (A u).long), ⟨by omega, by omega, .inr ⟨hu0, hpm.1, c1, ⟨_, c6⟩, hF.tail, List.nodup_append.2 ⟨hnd1.1, hnd.2.1, fun a ha b hb => hnd.2.2 a (by simp [ha]) b hb⟩, fun h => ?_, htop, by omega⟩⟩, by rw [if_neg hu0]; rfl, .inr ⟨hs, rfl⟩⟩
      rcases List.mem_append.1 h with h | h
      · exact hnd1.2.2 u h u (by simp) rfl
      · exact hnd.2.2 u (by simp) u h rfl
end Go.Proofs.YtnilikomoapcaaaGreat
