/- Package seq against the document's tree, mathematics alone: the same units at the same places, each below the same one. -/
import Derived.Test.YtnbphdmpbjahhaaTrX
import Derived.Test.YtnbphdmpbjahhaaTrU
namespace Go.Proofs.Ytnbphdmpbjahhaa
set_option linter.unusedVariables false
set_option linter.unusedSimpArgs false

/-- The program's sequence and the document's tree hold the same: node x stands at spot sp x. -/
structure Corr (S : SS) (r : RS) (sp : Nat → Sp) : Prop where
  inv : Inv S
  ok : ROk r
  runs : RunsOk S.runs
  spots : S.spots = r.order.map sp
  unit : ∀ x, x < r.l.length → S.unit (sp x) = (r.nd x).u
  par0 : ∀ x, x < r.l.length → (r.nd x).par = -1 → parS S.runs (sp x) = .zero
  par : ∀ x p : Nat, x < r.l.length → (r.nd x).par = (p : Int) → parS S.runs (sp x) = sp p
theorem Corr.new : Corr .new .zero (fun _ => .zero) :=
  ⟨Inv.new, ROk.zero, RunsOk.new, rfl, fun x h => absurd h (Nat.not_lt_zero _), fun x h => absurd h (Nat.not_lt_zero _), fun x p h => absurd h (Nat.not_lt_zero _)⟩
section
variable {S : SS} {r : RS} {sp : Nat → Sp}
theorem Corr.total (h : Corr S r sp) : S.total = (r.l.length : Int) := by
  rw [← h.inv.spots_len, h.spots, List.length_map, h.ok.inv.len]
theorem Corr.units (h : Corr S r sp) : S.units = r.order.map fun x => (r.nd x).u := by
  unfold SS.units
  rw [h.spots, List.map_map]
  apply List.map_congr_left
  intro x hx
  exact h.unit x (h.ok.inv.lt x hx)
/-- A node's spot is in the list. -/
theorem Corr.mem (h : Corr S r sp) (x : Nat) (hx : x < r.l.length) : sp x ∈ S.spots := by
  rw [h.spots]
  exact List.mem_map.2 ⟨x, List.count_pos_iff.1 (by rw [h.ok.inv.one x hx]; omega), rfl⟩
theorem Corr.spV (h : Corr S r sp) (x : Nat) (hx : x < r.l.length) : SpV S.runs (sp x) ∧ (sp x).run ≠ 0 := by
  obtain ⟨a, b, c, _⟩ := h.inv.spot_run (h.mem x hx)
  exact ⟨⟨b, c, fun e => by omega⟩, by omega⟩
/-- A node is found at its place. -/
theorem Corr.at_place (h : Corr S r sp) (x : Nat) (hx : x < r.l.length) : S.find (r.nd x).u.c (r.nd x).u.k = r.place (x : Int) ∧ S.spotOf (r.nd x).u.c (r.nd x).u.k = sp x := by
  obtain ⟨i, hi, e1, e2⟩ := h.ok.inv.place_ok x hx
  have hm : S.spots[i]? = some (sp x) := by
    rw [h.spots, List.getElem?_map, List.getElem?_eq_getElem hi, e1]; rfl
  have := h.inv.find_at hm
  rw [h.unit x hx] at this
  rw [e2]; exact this
theorem Corr.find_node (h : Corr S r sp) {x : Nat} (hx : x < r.l.length) : r.find (r.nd x).u.c (r.nd x).u.k = (x : Int) := by
  have hne := RS.find_ex (r := r) hx rfl rfl
  have hb := RS.find_lt (r := r) (r.nd x).u.c (r.nd x).u.k
  obtain ⟨y, hy⟩ := Int.eq_ofNat_of_zero_le (show 0 ≤ r.find (r.nd x).u.c (r.nd x).u.k by omega)
  obtain ⟨f0, f1, f2⟩ := RS.find_id hy
  rw [hy, h.ok.uniq y x f0 hx f1 f2]
/-- Find: the same. -/
theorem Corr.find (h : Corr S r sp) {c k : Int} (hc : 0 ≤ c) (hk : 0 ≤ k) : S.find c k = r.findP c k := by
  have hb := RS.find_lt (r := r) c k
  unfold RS.findP
  by_cases hn : r.find c k < 0
  · rw [if_pos hn]
    refine h.inv.find_none hc hk fun v hv e => ?_
    rw [h.units] at hv
    obtain ⟨x, hx, rfl⟩ := List.mem_map.1 hv
    exact RS.find_ex (h.ok.inv.lt x hx) e.1 e.2 (by omega)
  · rw [if_neg hn]
    obtain ⟨y, hy⟩ := Int.eq_ofNat_of_zero_le (show 0 ≤ r.find c k by omega)
    obtain ⟨f0, f1, f2⟩ := RS.find_id hy
    have := (h.at_place y f0).1
    rw [f1, f2] at this
    rw [hy]; exact this
theorem Corr.spotOf (h : Corr S r sp) {c k : Int} {y : Nat} (hy : r.find c k = (y : Int)) : S.spotOf c k = sp y := by
  obtain ⟨f0, f1, f2⟩ := RS.find_id hy
  have := (h.at_place y f0).2
  rw [f1, f2] at this
  exact this
/-- The root's spot. -/
theorem Corr.spot0 (h : Corr S r sp) : S.spotOf 0 0 = .zero := by
  have e : S.piece 0 0 = 0 := by
    have := lastF_cut (p := S.holds 0 0) (A := []) (B := S.idx) (by simp) fun i hi => by
      obtain ⟨a, b⟩ := (h.inv.idxF.lab i).1 hi
      obtain ⟨q1, q2, q3, q4, q5⟩ := h.inv.pcs i (by omega) b
      have q := h.inv.runs _ q1 q2
      have hc : (S.first i).c = (rn S.runs (S.pc i).run).first.c := SS.unit_c _ _
      unfold SS.holds
      rw [Bool.not_eq_false', lessI_iff]
      omega
    exact this
  have e1 : S.pc 0 = .zero := h.inv.p0
  have e2 : (S.first 0).k = 0 := by
    have : (S.first 0).k = (rn S.runs (S.pc 0).run).first.k + (S.pc 0).pos := SS.unit_k _ _
    rw [this, e1, h.inv.root]; rfl
  unfold SS.spotOf
  rw [e, e1, e2]; rfl
theorem Corr.find0 (h : Corr S r sp) : r.find 0 0 = -1 := by
  refine Decidable.byContradiction fun e => ?_
  have hb := RS.find_lt (r := r) 0 0
  obtain ⟨y, hy⟩ := Int.eq_ofNat_of_zero_le (show 0 ≤ r.find 0 0 by omega)
  obtain ⟨f0, f1, f2⟩ := RS.find_id hy
  have := (h.ok.id y f0).1
  rw [f1] at this
  exact absurd this (by decide)
/-- How far behind a unit's Right stands: told in another way, but compared alike. -/
theorem Corr.far (h : Corr S r sp) {v : Un} (hv : v.ok) (hr : RgtOk r v) : (r.farU v = (r.l.length : Int) + 1 ∧ S.rightOf v = (r.l.length : Int) ∧ v.rc = 0 ∧ v.rk = 0) ∨ (r.farU v = S.rightOf v ∧ S.rightOf v < (r.l.length : Int) ∧ ∃ y : Nat, y < r.l.length ∧ (r.nd y).u.c = v.rc ∧ (r.nd y).u.k = v.rk ∧ S.rightOf v = r.place (y : Int)) := by
  by_cases e : v.rc = 0 ∧ v.rk = 0
  · left
    unfold RS.farU RS.far SS.rightOf
    rw [if_pos e, if_pos e, h.total, h.ok.inv.len]
    exact ⟨rfl, rfl, e⟩
  · right
    have hne : r.find v.rc v.rk ≠ -1 := by
      rcases hr with hr | hr
      · exact absurd hr e
      · exact hr
    have hb := RS.find_lt (r := r) v.rc v.rk
    obtain ⟨y, hy⟩ := Int.eq_ofNat_of_zero_le (show 0 ≤ r.find v.rc v.rk by omega)
    obtain ⟨f0, f1, f2⟩ := RS.find_id hy
    have e1 : S.rightOf v = r.place (y : Int) := by
      unfold SS.rightOf
      rw [if_neg e, h.find hv.rc hv.rk.1]
      unfold RS.findP
      rw [if_neg (by omega), hy]
    obtain ⟨i, hi, _, e3⟩ := h.ok.inv.place_ok y f0
    refine ⟨?_, by rw [e1, e3]; have := h.ok.inv.len; omega, y, f0, f1, f2, e1⟩
    unfold RS.farU RS.far
    rw [if_neg e, e1]
    unfold RS.findP
    rw [if_neg (by omega), hy]
/-- The same one is ahead. -/
theorem Corr.ahead (h : Corr S r sp) {v w : Un} (hv : v.ok) (hw : w.ok) (hrv : RgtOk r v) (hrw : RgtOk r w) : S.isAhead v w = r.fart v w := by
  have key : S.isAhead v w = true ↔ r.fart v w = true := by
    rw [RS.fart_iff]
    unfold SS.isAhead
    rcases h.far hv hrv with ⟨a1, a2, a3, a4⟩ | ⟨a1, a2, y, a3, a4, a5, a6⟩ <;> rcases h.far hw hrw with ⟨b1, b2, b3, b4⟩ | ⟨b1, b2, z, b3, b4, b5, b6⟩
    · rw [if_pos ⟨by omega, by omega⟩, lessI_iff, a1, b1]; omega
    · have hz := (h.ok.id z b3).1
      have hz' : 1 ≤ (r.nd z).u.c ∧ (r.nd z).u.c ≤ 9007199254740991 := by simpa [numOk] using hz
      rw [if_neg (by omega), decide_eq_true_eq, a1, b1]; omega
    · have hz := (h.ok.id y a3).1
      have hz' : 1 ≤ (r.nd y).u.c ∧ (r.nd y).u.c ≤ 9007199254740991 := by simpa [numOk] using hz
      rw [if_neg (by omega), decide_eq_true_eq, a1, b1]; omega
    · by_cases e : v.rc = w.rc ∧ v.rk = w.rk
      · have hyz : y = z := h.ok.uniq y z a3 b3 (by omega) (by omega)
        rw [if_pos e, lessI_iff, a1, b1, a6, b6, hyz]; omega
      · have hne : S.rightOf v ≠ S.rightOf w := fun q => by
          obtain ⟨i, hi, e1, e2⟩ := h.ok.inv.place_ok y a3
          obtain ⟨j, hj, e3, e4⟩ := h.ok.inv.place_ok z b3
          have hij : i = j := by rw [a6, b6, e2, e4] at q; omega
          subst hij
          have hyz : y = z := by rw [← e1, ← e3]
          subst hyz
          exact e ⟨by omega, by omega⟩
        rw [if_neg e, decide_eq_true_eq, a1, b1]; omega
  cases e1 : S.isAhead v w <;> cases e2 : r.fart v w <;> simp_all
end
end Go.Proofs.Ytnbphdmpbjahhaa

/- Package seq against the document's tree, mathematics alone: what may be laid, and below which one it comes. -/
namespace Go.Proofs.Ytnbphdmpbjahhaa
set_option linter.unusedVariables false
set_option linter.unusedSimpArgs false

/-- A node's spot, or the root's. -/
def spI (sp : Nat → Sp) (i : Int) : Sp := if i < 0 then .zero else sp i.toNat
section
variable {S : SS} {r : RS} {sp : Nat → Sp}
theorem Corr.may (h : Corr S r sp) {u : Un} (hu : u.ok) : S.may u 1 = r.may u := by
  have hbl := RS.find_lt (r := r) u.lc u.lk
  have hbr := RS.find_lt (r := r) u.rc u.rk
  have hbc := RS.find_lt (r := r) u.c u.k
  have fL := h.find hu.lc hu.lk.1
  have fR := h.find hu.rc hu.rk.1
  have fC := h.find hu.c hu.k.1
  have ht := h.total
  have hlen := h.ok.inv.len
  have f0 := h.find0
  have pl : ∀ c k, 0 ≤ r.find c k → 0 ≤ r.place (r.find c k) ∧ r.place (r.find c k) < (r.l.length : Int) := fun c k hf => by
    obtain ⟨y, hy⟩ := Int.eq_ofNat_of_zero_le hf
    obtain ⟨a, _, _⟩ := RS.find_id hy
    obtain ⟨i, hi, _, e⟩ := h.ok.inv.place_ok y a
    rw [hy, e]; omega
  have key : S.may u 1 = true ↔ r.may u = true := by
    rw [may_r]
    constructor
    · intro hm
      obtain ⟨⟨a, b⟩, _, _, c, d⟩ := may_iff.1 hm
      have ha : 1 ≤ u.c ∧ u.c ≤ 9007199254740991 := by simpa [numOk] using a
      have hn : S.find u.c u.k = -1 := Decidable.byContradiction fun e => by
        rw [(h.inv.hasAny_one ha.1 hu.k.1).2 e] at c; cases c
      have hb : ¬ ((S.find u.lc u.lk + 1 = 0 ∧ ¬ (u.lc = 0 ∧ u.lk = 0)) ∨ S.rightOf u < S.find u.lc u.lk + 1) := fun e => by
        unfold SS.between at d; rw [if_pos e] at d; cases d
      rw [fL] at hb
      rw [fC] at hn
      unfold SS.rightOf at hb
      rw [fR] at hb
      unfold RS.findP at hb hn
      refine ⟨a, b, ?_, ?_, ?_, ?_⟩
      · refine Decidable.byContradiction fun e => ?_
        have := pl u.c u.k (by omega)
        rw [if_neg (by omega)] at hn
        omega
      · refine Decidable.byContradiction fun e => hb (.inl ⟨?_, fun q => e (.inl q)⟩)
        have : r.find u.lc u.lk = -1 := Decidable.byContradiction fun q => e (.inr q)
        rw [if_pos (by omega)]; rfl
      · refine Decidable.byContradiction fun e => hb (.inr ?_)
        have e1 : ¬ (u.rc = 0 ∧ u.rk = 0) := fun q => e (.inl q)
        have e2 : r.find u.rc u.rk = -1 := Decidable.byContradiction fun q => e (.inr q)
        rw [if_neg e1, if_pos (by omega)]
        split
        · omega
        · have := pl u.lc u.lk (by omega); omega
      · intro g1 g2
        refine Decidable.byContradiction fun e => hb (.inr ?_)
        have e1 : ¬ (u.rc = 0 ∧ u.rk = 0) := fun q => by rw [q.1, q.2] at g2; exact g2 f0
        rw [if_neg e1, if_neg (by omega), if_neg (by omega)]
        omega
    · rintro ⟨a, b, c, d, e, f⟩
      have ha : 1 ≤ u.c ∧ u.c ≤ 9007199254740991 := by simpa [numOk] using a
      have hb : 1 ≤ u.k ∧ u.k ≤ 9007199254740991 := by simpa [numOk] using b
      refine may_iff.2 ⟨⟨a, b⟩, Int.le_refl _, by omega, ?_, ?_⟩
      · cases hh : S.hasAny u.c u.k 1 with
        | false => rfl
        | true =>
          have := (h.inv.hasAny_one ha.1 hu.k.1).1 hh
          rw [fC] at this
          unfold RS.findP at this
          rw [if_pos (by omega)] at this
          exact absurd rfl this
      · unfold SS.between
        rw [if_neg]
        rw [fL]
        unfold SS.rightOf
        rw [fR]
        unfold RS.findP
        rintro (⟨g1, g2⟩ | g)
        · have : r.find u.lc u.lk ≠ -1 := by
            rcases d with d | d
            · exact absurd d g2
            · exact d
          have := pl u.lc u.lk (by omega)
          rw [if_neg (by omega)] at g1
          omega
        · by_cases e1 : u.rc = 0 ∧ u.rk = 0
          · rw [if_pos e1] at g
            split at g
            · omega
            · have := pl u.lc u.lk (by omega); omega
          · have e2 : r.find u.rc u.rk ≠ -1 := by
              rcases e with e | e
              · exact absurd e e1
              · exact e
            have p2 := pl u.rc u.rk (by omega)
            rw [if_neg e1, if_neg (show ¬ r.find u.rc u.rk < 0 by omega)] at g
            split at g
            · omega
            · have := f (by omega) e2
              omega
  cases e1 : S.may u 1 <;> cases e2 : r.may u <;> simp_all
theorem Corr.inj (h : Corr S r sp) {x y : Nat} (hx : x < r.l.length) (hy : y < r.l.length) (e : sp x = sp y) : x = y := by
  have e1 := h.unit x hx
  rw [e, h.unit y hy] at e1
  exact h.ok.uniq x y hx hy (by rw [e1]) (by rw [e1])
theorem up_zero {R : List Rn} (hR : RunsOk R) : ∀ k, upN R k .zero = .zero
  | 0 => rfl
  | k + 1 => by
    show upN R k (parS R .zero) = _
    have : parS R .zero = .zero := by unfold parS; rw [if_pos rfl]; show (rn R 0).par = _; rw [hR.root]
    rw [this]; exact up_zero hR k
/-- The way up, in both. -/
theorem Corr.ups (h : Corr S r sp) (t : Nat) : ∀ (f x : Nat), x < r.l.length → r.ups (t : Int) f (r.nd x).par = true → ∃ k, parS S.runs (upN S.runs k (sp x)) = sp t ∧ (upN S.runs k (sp x)).run ≠ 0
  | 0, x, hx, e => by simp [RS.ups] at e
  | f + 1, x, hx, e => by
    unfold RS.ups at e
    have hup := h.ok.inv.up x hx
    by_cases hn : (r.nd x).par < 0
    · rw [if_pos hn] at e; cases e
    · rw [if_neg hn, Bool.or_eq_true, beq_iff_eq] at e
      obtain ⟨p, hp⟩ := Int.eq_ofNat_of_zero_le (show 0 ≤ (r.nd x).par by omega)
      have hpx := h.par x p hx hp
      rcases e with e | e
      · have : p = t := by omega
        subst this
        exact ⟨0, hpx, (h.spV x hx).2⟩
      · rw [hp, Int.toNat_natCast] at e
        obtain ⟨k, e1, e2⟩ := h.ups t f p (by omega) e
        refine ⟨k + 1, ?_, ?_⟩
        · show parS S.runs (upN S.runs k (parS S.runs (sp x))) = _
          rw [hpx]; exact e1
        · show (upN S.runs k (parS S.runs (sp x))).run ≠ 0
          rw [hpx]; exact e2
theorem Corr.noUps (h : Corr S r sp) (t : Nat) (ht : t < r.l.length) : ∀ (f x : Nat), x < f → x < r.l.length → r.ups (t : Int) f (r.nd x).par = false → NoC S.runs (sp t) (sp x)
  | 0, x, hf, hx, e => absurd hf (Nat.not_lt_zero _)
  | f + 1, x, hf, hx, e => by
    unfold RS.ups at e
    have hup := h.ok.inv.up x hx
    have htr := (h.spV t ht).2
    by_cases hn : (r.nd x).par < 0
    · have hp0 := h.par0 x hx (by omega)
      intro k hk
      cases k with
      | zero => 
        show parS S.runs (sp x) ≠ _
        rw [hp0]
        intro q
        exact htr (by rw [← q])
      | succ k =>
        have : upN S.runs (k + 1) (sp x) = .zero := by
          show upN S.runs k (parS S.runs (sp x)) = _
          rw [hp0]; exact up_zero h.runs k
        rw [this] at hk
        exact absurd rfl hk
    · rw [if_neg hn, Bool.or_eq_false_iff, beq_eq_false_iff_ne] at e
      obtain ⟨p, hp⟩ := Int.eq_ofNat_of_zero_le (show 0 ≤ (r.nd x).par by omega)
      have hpx := h.par x p hx hp
      rw [hp, Int.toNat_natCast] at e
      have ih := h.noUps t ht f p (by omega) (by omega) e.2
      intro k hk
      cases k with
      | zero =>
        show parS S.runs (sp x) ≠ _
        rw [hpx]
        intro q
        exact e.1 (by rw [h.inj (by omega) ht q])
      | succ k =>
        have : upN S.runs (k + 1) (sp x) = upN S.runs k (sp p) := by
          show upN S.runs k (parS S.runs (sp x)) = _
          rw [hpx]
        rw [this] at hk ⊢
        exact ih k hk
theorem Corr.toRoot (h : Corr S r sp) : ∀ (f x : Nat), x < f → x < r.l.length → ∃ k, parS S.runs (upN S.runs k (sp x)) = .zero ∧ (upN S.runs k (sp x)).run ≠ 0
  | 0, x, hf, hx => absurd hf (Nat.not_lt_zero _)
  | f + 1, x, hf, hx => by
    have hup := h.ok.inv.up x hx
    by_cases hn : (r.nd x).par < 0
    · exact ⟨0, h.par0 x hx (by omega), (h.spV x hx).2⟩
    · obtain ⟨p, hp⟩ := Int.eq_ofNat_of_zero_le (show 0 ≤ (r.nd x).par by omega)
      have hpx := h.par x p hx hp
      obtain ⟨k, e1, e2⟩ := h.toRoot f p (by omega) (by omega)
      refine ⟨k + 1, ?_, ?_⟩
      · show parS S.runs (upN S.runs k (parS S.runs (sp x))) = _
        rw [hpx]; exact e1
      · show (upN S.runs k (parS S.runs (sp x))).run ≠ 0
        rw [hpx]; exact e2
theorem Corr.zeroV (h : Corr S r sp) : SpV S.runs .zero := ⟨h.runs.len, Int.le_refl _, fun _ => rfl⟩
/-- Where its origin stands, or the root. -/
theorem Corr.spotI (h : Corr S r sp) {c k : Int} (hf : (c = 0 ∧ k = 0) ∨ r.find c k ≠ -1) : S.spotOf c k = spI sp (r.find c k) := by
  by_cases e : r.find c k = -1
  · rcases hf with ⟨rfl, rfl⟩ | hf
    · rw [h.spot0, e]; rfl
    · exact absurd e hf
  · have hb := RS.find_lt (r := r) c k
    obtain ⟨y, hy⟩ := Int.eq_ofNat_of_zero_le (show 0 ≤ r.find c k by omega)
    rw [h.spotOf hy, hy]
    unfold spI
    rw [if_neg (by omega), Int.toNat_natCast]
/-- The parent, and which child it will be: the same. -/
theorem Corr.parentOf (h : Corr S r sp) (hD : Down S.runs) {u : Un} (hm : MayR r u) : S.parentOf u = (spI sp (r.node u).par, r.isL u) := by
  have hbl := RS.find_lt (r := r) u.lc u.lk
  have hbr := RS.find_lt (r := r) u.rc u.rk
  have eL := h.spotI hm.left
  have hpar : (r.node u).par = if r.isL u then r.find u.rc u.rk else r.find u.lc u.lk := rfl
  unfold SS.parentOf
  by_cases e : u.rc = 0 ∧ u.rk = 0
  · have hl : r.isL u = false := by
      unfold RS.isL
      rw [e.1, e.2, h.find0]; rfl
    rw [if_pos e, eL, hpar, hl]; rfl
  · have hne : r.find u.rc u.rk ≠ -1 := by
      rcases hm.right with q | q
      · exact absurd q e
      · exact q
    obtain ⟨y, hy⟩ := Int.eq_ofNat_of_zero_le (show 0 ≤ r.find u.rc u.rk by omega)
    have hyl : y < r.l.length := (RS.find_id hy).1
    have eR : S.spotOf u.rc u.rk = sp y := h.spotOf hy
    have hyV := (h.spV y hyl).1
    have hch : (childR S.runs (S.spotOf u.lc u.lk) (S.spotOf u.rc u.rk)).2 = r.isL u := by
      rw [eL, eR]
      unfold RS.isL
      rw [hy, Int.toNat_natCast]
      by_cases el : u.lc = 0 ∧ u.lk = 0
      · have e0 : spI sp (r.find u.lc u.lk) = .zero := by rw [el.1, el.2, h.find0]; rfl
        obtain ⟨k, k1, k2⟩ := h.toRoot r.l.length y hyl hyl
        rw [e0, childR_eq h.runs hD h.zeroV hyV k1 k2]
        simp [el]
      · have hnl : r.find u.lc u.lk ≠ -1 := by
          rcases hm.left with q | q
          · exact absurd q el
          · exact q
        obtain ⟨t, ht⟩ := Int.eq_ofNat_of_zero_le (show 0 ≤ r.find u.lc u.lk by omega)
        have htl : t < r.l.length := (RS.find_id ht).1
        have e0 : spI sp (r.find u.lc u.lk) = sp t := by
          unfold spI
          rw [if_neg (by omega), ht, Int.toNat_natCast]
        have htV := (h.spV t htl).1
        rw [e0, ht]
        have d1 : decide (0 ≤ (y : Int)) = true := by simp
        have d2 : decide (u.lc = 0 ∧ u.lk = 0) = false := by simpa using el
        rw [d1, d2, Bool.true_and, Bool.false_or]
        cases hu : r.ups (t : Int) r.l.length (r.nd y).par with
        | true =>
          obtain ⟨k, k1, k2⟩ := h.ups t _ y hyl hu
          rw [childR_eq h.runs hD htV hyV k1 k2]
        | false => exact childR_no h.runs hD htV hyV (h.noUps t htl _ y hyl hyl hu)
    rw [if_neg e, hch, hpar]
    cases hl : r.isL u with
    | true =>
      rw [if_pos rfl, if_pos rfl, eR, hy]
      unfold spI
      rw [if_neg (by omega), Int.toNat_natCast]
    | false => 
      rw [if_neg (by simp), if_neg (by simp), eL]
end
end Go.Proofs.Ytnbphdmpbjahhaa
