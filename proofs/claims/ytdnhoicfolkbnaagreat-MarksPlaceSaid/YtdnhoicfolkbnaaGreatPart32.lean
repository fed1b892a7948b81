/- Package seq against the document's tree, mathematics alone: the same units at the same places, each below the same one. -/
import Derived.Test.YtdnhoicfolkbnaaGreatTrX
import Derived.Test.YtdnhoicfolkbnaaGreatTrU
namespace Go.Proofs.YtdnhoicfolkbnaaGreat
set_option linter.unusedVariables false
set_option linter.unusedSimpArgs false

/-- The program's sequence and the document's tree hold the same: node x stands at spot sp x. -/
structure Corr (S : SS) (r : RS) (sp : Nat → Sp) : Prop where
  inv : Inv S
  ok : ROk r
  runs : RunsOk S.runs
  spots : S.spots = r.order.map sp
  unit : ∀ x, x < r.l.length → S.unit (sp x) = (r.nd x).u
  par0 : ∀ x, x < r.l.length → (r.nd x).par = -1 → parS S.runs (sp x) = .zero
  par : ∀ x p : Nat, x < r.l.length → (r.nd x).par = (p : Int) → parS S.runs (sp x) = sp p
theorem Corr.new : Corr .new .zero (fun _ => .zero) :=
  ⟨Inv.new, ROk.zero, RunsOk.new, rfl, fun x h => absurd h (Nat.not_lt_zero _), fun x h => absurd h (Nat.not_lt_zero _), fun x p h => absurd h (Nat.not_lt_zero _)⟩
section
variable {S : SS} {r : RS} {sp : Nat → Sp}
theorem Corr.total (h : Corr S r sp) : S.total = (r.l.length : Int) := by
  rw [← h.inv.spots_len, h.spots, List.length_map, h.ok.inv.len]
theorem Corr.units (h : Corr S r sp) : S.units = r.order.map fun x => (r.nd x).u := by
  unfold SS.units
  rw [h.spots, List.map_map]
  apply List.map_congr_left
  intro x hx
  exact h.unit x (h.ok.inv.lt x hx)
/-- A node's spot is in the list. -/
theorem Corr.mem (h : Corr S r sp) (x : Nat) (hx : x < r.l.length) : sp x ∈ S.spots := by
  rw [h.spots]
  exact List.mem_map.2 ⟨x, List.count_pos_iff.1 (by rw [h.ok.inv.one x hx]; omega), rfl⟩
theorem Corr.spV (h : Corr S r sp) (x : Nat) (hx : x < r.l.length) : SpV S.runs (sp x) ∧ (sp x).run ≠ 0 := by
  obtain ⟨a, b, c, _⟩ := h.inv.spot_run (h.mem x hx)
  exact ⟨⟨b, c, fun e => by omega⟩, by omega⟩
/-- A node is found at its place. -/
theorem Corr.at_place (h : Corr S r sp) (x : Nat) (hx : x < r.l.length) : S.find (r.nd x).u.c (r.nd x).u.k = r.place (x : Int) ∧ S.spotOf (r.nd x).u.c (r.nd x).u.k = sp x := by
  obtain ⟨i, hi, e1, e2⟩ := h.ok.inv.place_ok x hx
  have hm : S.spots[i]? = some (sp x) := by
    rw [h.spots, List.getElem?_map, List.getElem?_eq_getElem hi, e1]; rfl
  have := h.inv.find_at hm
  rw [h.unit x hx] at this
  rw [e2]; exact this
theorem Corr.find_node (h : Corr S r sp) {x : Nat} (hx : x < r.l.length) : r.find (r.nd x).u.c (r.nd x).u.k = (x : Int) := by
  have hne := RS.find_ex (r := r) hx rfl rfl
  have hb := RS.find_lt (r := r) (r.nd x).u.c (r.nd x).u.k
  obtain ⟨y, hy⟩ := Int.eq_ofNat_of_zero_le (show 0 ≤ r.find (r.nd x).u.c (r.nd x).u.k by omega)
  obtain ⟨f0, f1, f2⟩ := RS.find_id hy
  rw [hy, h.ok.uniq y x f0 hx f1 f2]
/-- Find: the same. -/
theorem Corr.find (h : Corr S r sp) {c k : Int} (hc : 0 ≤ c) (hk : 0 ≤ k) : S.find c k = r.findP c k := by
  have hb := RS.find_lt (r := r) c k
  unfold RS.findP
  by_cases hn : r.find c k < 0
  · rw [if_pos hn]
    refine h.inv.find_none hc hk fun v hv e => ?_
    rw [h.units] at hv
    obtain ⟨x, hx, rfl⟩ := List.mem_map.1 hv
    exact RS.find_ex (h.ok.inv.lt x hx) e.1 e.2 (by omega)
  · rw [if_neg hn]
    obtain ⟨y, hy⟩ := Int.eq_ofNat_of_zero_le (show 0 ≤ r.find c k by omega)
    obtain ⟨f0, f1, f2⟩ := RS.find_id hy
    have := (h.at_place y f0).1
    rw [f1, f2] at this
    rw [hy]; exact this
theorem Corr.spotOf (h : Corr S r sp) {c k : Int} {y : Nat} (hy : r.find c k = (y : Int)) : S.spotOf c k = sp y := by
  obtain ⟨f0, f1, f2⟩ := RS.find_id hy
  have := (h.at_place y f0).2
  rw [f1, f2] at this
  exact this
/-- The root's spot. -/
theorem Corr.spot0 (h : Corr S r sp) : S.spotOf 0 0 = .zero := by
  have e : S.piece 0 0 = 0 := by
    have := lastF_cut (p := S.holds 0 0) (A := []) (B := S.idx) (by simp) fun i hi => by
      obtain ⟨a, b⟩ := (h.inv.idxF.lab i).1 hi
      obtain ⟨q1, q2, q3, q4, q5⟩ := h.inv.pcs i (by omega) b
      have q := h.inv.runs _ q1 q2
      have hc : (S.first i).c = (rn S.runs (S.pc i).run).first.c := SS.unit_c _ _
      unfold SS.holds
      rw [Bool.not_eq_false', lessI_iff]
      omega
    exact this
  have e1 : S.pc 0 = .zero := h.inv.p0
  have e2 : (S.first 0).k = 0 := by
    have : (S.first 0).k = (rn S.runs (S.pc 0).run).first.k + (S.pc 0).pos := SS.unit_k _ _
    rw [this, e1, h.inv.root]; rfl
  unfold SS.spotOf
  rw [e, e1, e2]; rfl
theorem Corr.find0 (h : Corr S r sp) : r.find 0 0 = -1 := by
  refine Decidable.byContradiction fun e => ?_
  have hb := RS.find_lt (r := r) 0 0
  obtain ⟨y, hy⟩ := Int.eq_ofNat_of_zero_le (show 0 ≤ r.find 0 0 by omega)
  obtain ⟨f0, f1, f2⟩ := RS.find_id hy
  have := (h.ok.id y f0).1
  rw [f1] at this
  exact absurd this (by decide)
/-- How far behind a unit's Right stands: told in another way, but compared alike. -/
theorem Corr.far (h : Corr S r sp) {v : Un} (hv : v.ok) (hr : RgtOk r v) : (r.farU v = (r.l.length : Int) + 1 ∧ S.rightOf v = (r.l.length : Int) ∧ v.rc = 0 ∧ v.rk = 0) ∨ (r.farU v = S.rightOf v ∧ S.rightOf v < (r.l.length : Int) ∧ ∃ y : Nat, y < r.l.length ∧ (r.nd y).u.c = v.rc ∧ (r.nd y).u.k = v.rk ∧ S.rightOf v = r.place (y : Int)) := by
  by_cases e : v.rc = 0 ∧ v.rk = 0
  · left
    unfold RS.farU RS.far SS.rightOf
    rw [if_pos e, if_pos e, h.total, h.ok.inv.len]
    exact ⟨rfl, rfl, e⟩
  · right
    have hne : r.find v.rc v.rk ≠ -1 := by
      rcases hr with hr | hr
      · exact absurd hr e
      · exact hr
    have hb := RS.find_lt (r := r) v.rc v.rk
    obtain ⟨y, hy⟩ := Int.eq_ofNat_of_zero_le (show 0 ≤ r.find v.rc v.rk by omega)
    obtain ⟨f0, f1, f2⟩ := RS.find_id hy
    have e1 : S.rightOf v = r.place (y : Int) := by
      unfold SS.rightOf
      rw [if_neg e, h.find hv.rc hv.rk.1]
      unfold RS.findP
      rw [if_neg (by omega), hy]
    obtain ⟨i, hi, _, e3⟩ := h.ok.inv.place_ok y f0
    refine ⟨?_, by rw [e1, e3]; have := h.ok.inv.len; omega, y, f0, f1, f2, e1⟩
    unfold RS.farU RS.far
    rw [if_neg e, e1]
    unfold RS.findP
    rw [if_neg (by omega), hy]
/-- The same one is ahead. -/
theorem Corr.ahead (h : Corr S r sp) {v w : Un} (hv : v.ok) (hw : w.ok) (hrv : RgtOk r v) (hrw : RgtOk r w) : S.isAhead v w = r.fart v w := by
  have key : S.isAhead v w = true ↔ r.fart v w = true := by
    rw [RS.fart_iff]
    unfold SS.isAhead
    rcases h.far hv hrv with ⟨a1, a2, a3, a4⟩ | ⟨a1, a2, y, a3, a4, a5, a6⟩ <;> rcases h.far hw hrw with ⟨b1, b2, b3, b4⟩ | ⟨b1, b2, z, b3, b4, b5, b6⟩
    · rw [if_pos ⟨by omega, by omega⟩, lessI_iff, a1, b1]; omega
    · have hz := (h.ok.id z b3).1
      have hz' : 1 ≤ (r.nd z).u.c ∧ (r.nd z).u.c ≤ 9007199254740991 := by simpa [numOk] using hz
      rw [if_neg (by omega), decide_eq_true_eq, a1, b1]; omega
    · have hz := (h.ok.id y a3).1
      have hz' : 1 ≤ (r.nd y).u.c ∧ (r.nd y).u.c ≤ 9007199254740991 := by simpa [numOk] using hz
      rw [if_neg (by omega), decide_eq_true_eq, a1, b1]; omega
    · by_cases e : v.rc = w.rc ∧ v.rk = w.rk
      · have hyz : y = z := h.ok.uniq y z a3 b3 (by omega) (by omega)
        rw [if_pos e, lessI_iff, a1, b1, a6, b6, hyz]; omega
      · have hne : S.rightOf v ≠ S.rightOf w := fun q => by
          obtain ⟨i, hi, e1, e2⟩ := h.ok.inv.place_ok y a3
          obtain ⟨j, hj, e3, e4⟩ := h.ok.inv.place_ok z b3
          have hij : i = j := by rw [a6, b6, e2, e4] at q; omega
          subst hij
          have hyz : y = z := by rw [← e1, ← e3]
          subst hyz
          exact e ⟨by omega, by omega⟩
        rw [if_neg e, decide_eq_true_eq, a1, b1]; omega
  cases e1 : S.isAhead v w <;> cases e2 : r.fart v w <;> simp_all
end
end Go.Proofs.YtdnhoicfolkbnaaGreat

/- Package seq against the document's tree, mathematics alone: what may be laid, and below which one it comes. -/
namespace Go.Proofs.YtdnhoicfolkbnaaGreat
set_option linter.unusedVariables false
set_option linter.unusedSimpArgs false

/-- A node's spot, or the root's. -/
def spI (sp : Nat → Sp) (i : Int) : Sp := if i < 0 then .zero else sp i.toNat
section
variable {S : SS} {r : RS} {sp : Nat → Sp}
theorem Corr.may (h : Corr S r sp) {u : Un} (hu : u.ok) : S.may u 1 = r.may u := by
  have hbl := RS.find_lt (r := r) u.lc u.lk
  have hbr := RS.find_lt (r := r) u.rc u.rk
  have hbc := RS.find_lt (r := r) u.c u.k
  have fL := h.find hu.lc hu.lk.1
  have fR := h.find hu.rc hu.rk.1
  have fC := h.find hu.c hu.k.1
  have ht := h.total
  have hlen := h.ok.inv.len
  have f0 := h.find0
  have pl : ∀ c k, 0 ≤ r.find c k → 0 ≤ r.place (r.find c k) ∧ r.place (r.find c k) < (r.l.length : Int) := fun c k hf => by
    obtain ⟨y, hy⟩ := Int.eq_ofNat_of_zero_le hf
    obtain ⟨a, _, _⟩ := RS.find_id hy
    obtain ⟨i, hi, _, e⟩ := h.ok.inv.place_ok y a
    rw [hy, e]; omega
  have key : S.may u 1 = true ↔ r.may u = true := by
    rw [may_r]
    constructor
    · intro hm
      obtain ⟨⟨a, b⟩, _, _, c, d⟩ := may_iff.1 hm
      have ha : 1 ≤ u.c ∧ u.c ≤ 9007199254740991 := by simpa [numOk] using a
      have hn : S.find u.c u.k = -1 := Decidable.byContradiction fun e => by
        rw [(h.inv.hasAny_one ha.1 hu.k.1).2 e] at c; cases c
      have hb : ¬ ((S.find u.lc u.lk + 1 = 0 ∧ ¬ (u.lc = 0 ∧ u.lk = 0)) ∨ S.rightOf u < S.find u.lc u.lk + 1) := fun e => by
        unfold SS.between at d; rw [if_pos e] at d; cases d
      rw [fL] at hb
      rw [fC] at hn
      unfold SS.rightOf at hb
      rw [fR] at hb
      unfold RS.findP at hb hn
      refine ⟨a, b, ?_, ?_, ?_, ?_⟩
      · refine Decidable.byContradiction fun e => ?_
        have := pl u.c u.k (by omega)
        rw [if_neg (by omega)] at hn
        omega
      · refine Decidable.byContradiction fun e => hb (.inl ⟨?_, fun q => e (.inl q)⟩)
        have : r.find u.lc u.lk = -1 := Decidable.byContradiction fun q => e (.inr q)
        rw [if_pos (by omega)]; rfl
      · refine Decidable.byContradiction fun e => hb (.inr ?_)
        have e1 : ¬ (u.rc = 0 ∧ u.rk = 0) := fun q => e (.inl q)
        have e2 : r.find u.rc u.rk = -1 := Decidable.byContradiction fun q => e (.inr q)
        rw [if_neg e1, if_pos (by omega)]
        split
        · omega
        · have := pl u.lc u.lk (by omega); omega
      · intro g1 g2
        refine Decidable.byContradiction fun e => hb (.inr ?_)
        have e1 : ¬ (u.rc = 0 ∧ u.rk = 0) := fun q => by rw [q.1, q.2] at g2; exact g2 f0
        rw [if_neg e1, if_neg (by omega), if_neg (by omega)]
        omega
    · rintro ⟨a, b, c, d, e, f⟩
      have ha : 1 ≤ u.c ∧ u.c ≤ 9007199254740991 := by simpa [numOk] using a
      have hb : 1 ≤ u.k ∧ u.k ≤ 9007199254740991 := by simpa [numOk] using b
      refine may_iff.2 ⟨⟨a, b⟩, Int.le_refl _, by omega, ?_, ?_⟩
      · cases hh : S.hasAny u.c u.k 1 with
        | false => rfl
        | true =>
          have := (h.inv.hasAny_one ha.1 hu.k.1).1 hh
          rw [fC] at this
          unfold RS.findP at this
          rw [if_pos (by omega)] at this
          exact absurd rfl this
      · unfold SS.between
        rw [if_neg]
        rw [fL]
        unfold SS.rightOf
        rw [fR]
        unfold RS.findP
        rintro (⟨g1, g2⟩ | g)
        · have : r.find u.lc u.lk ≠ -1 := by
            rcases d with d | d
            · exact absurd d g2
            · exact d
          have := pl u.lc u.lk (by omega)
          rw [if_neg (by omega)] at g1
          omega
        · by_cases e1 : u.rc = 0 ∧ u.rk = 0
          · rw [if_pos e1] at g
            split at g
            · omega
            · have := pl u.lc u.lk (by omega); omega
          · have e2 : r.find u.rc u.rk ≠ -1 := by
              rcases e with e | e
              · exact absurd e e1
              · exact e
            have p2 := pl u.rc u.rk (by omega)
            rw [if_neg e1, if_neg (show ¬ r.find u.rc u.rk < 0 by omega)] at g
            split at g
            · omega
            · have := f (by omega) e2
              omega
  cases e1 : S.may u 1 <;> cases e2 : r.may u <;> simp_all
theorem Corr.inj (h : Corr S r sp) {x y : Nat} (hx : x < r.l.length) (hy : y < r.l.length) (e : sp x = sp y) : x = y := by
  have e1 := h.unit x hx
  rw [e, h.unit y hy] at e1
  exact h.ok.uniq x y hx hy (by rw [e1]) (by rw [e1])
theorem up_zero {R : List Rn} (hR : RunsOk R) : ∀ k, upN R k .zero = .zero
  | 0 => rfl
  | k + 1 => by
    show upN R k (parS R .zero) = _
    have : parS R .zero = .zero := by unfold parS; rw [if_pos rfl]; show (rn R 0).par = _; rw [hR.root]
    rw [this]; exact up_zero hR k
/-- The way up, in both. -/
theorem Corr.ups (h : Corr S r sp) (t : Nat) : ∀ (f x : Nat), x < r.l.length → r.ups (t : Int) f (r.nd x).par = true → ∃ k, parS S.runs (upN S.runs k (sp x)) = sp t ∧ (upN S.runs k (sp x)).run ≠ 0
  | 0, x, hx, e => by simp [RS.ups] at e
  | f + 1, x, hx, e => by
    unfold RS.ups at e
    have hup := h.ok.inv.up x hx
    by_cases hn : (r.nd x).par < 0
    · rw [if_pos hn] at e; cases e
    · rw [if_neg hn, Bool.or_eq_true, beq_iff_eq] at e
      obtain ⟨p, hp⟩ := Int.eq_ofNat_of_zero_le (show 0 ≤ (r.nd x).par by omega)
      have hpx := h.par x p hx hp
      rcases e with e | e
      · have : p = t := by omega
        subst this
        exact ⟨0, hpx, (h.spV x hx).2⟩
      · rw [hp, Int.toNat_natCast] at e
        obtain ⟨k, e1, e2⟩ := h.ups t f p (by omega) e
        refine ⟨k + 1, ?_, ?_⟩
        · show parS S.runs (upN S.runs k (parS S.runs (sp x))) = _
          rw [hpx]; exact e1
        · show (upN S.runs k (parS S.runs (sp x))).run ≠ 0
          rw [hpx]; exact e2
theorem Corr.noUps (h : Corr S r sp) (t : Nat) (ht : t < r.l.length) : ∀ (f x : Nat), x < f → x < r.l.length → r.ups (t : Int) f (r.nd x).par = false → NoC S.runs (sp t) (sp x)
  | 0, x, hf, hx, e => absurd hf (Nat.not_lt_zero _)
  | f + 1, x, hf, hx, e => by
    unfold RS.ups at e
    have hup := h.ok.inv.up x hx
    have htr := (h.spV t ht).2
    by_cases hn : (r.nd x).par < 0
    · have hp0 := h.par0 x hx (by omega)
      intro k hk
      cases k with
      | zero => 
        show parS S.runs (sp x) ≠ _
        rw [hp0]
        intro q
        exact htr (by rw [← q])
      | succ k =>
        have : upN S.runs (k + 1) (sp x) = .zero := by
          show upN S.runs k (parS S.runs (sp x)) = _
          rw [hp0]; exact up_zero h.runs k
        rw [this] at hk
        exact absurd rfl hk
    · rw [if_neg hn, Bool.or_eq_false_iff, beq_eq_false_iff_ne] at e
      obtain ⟨p, hp⟩ := Int.eq_ofNat_of_zero_le (show 0 ≤ (r.nd x).par by omega)
      have hpx := h.par x p hx hp
      rw [hp, Int.toNat_natCast] at e
      have ih := h.noUps t ht f p (by omega) (by omega) e.2
      intro k hk
      cases k with
      | zero =>
        show parS S.runs (sp x) ≠ _
        rw [hpx]
        intro q
        exact e.1 (by rw [h.inj (by omega) ht q])
      | succ k =>
        have : upN S.runs (k + 1) (sp x) = upN S.runs k (sp p) := by
          show upN S.runs k (parS S.runs (sp x)) = _
          rw [hpx]
        rw [this] at hk ⊢
        exact ih k hk
theorem Corr.toRoot (h : Corr S r sp) : ∀ (f x : Nat), x < f → x < r.l.length → ∃ k, parS S.runs (upN S.runs k (sp x)) = .zero ∧ (upN S.runs k (sp x)).run ≠ 0
  | 0, x, hf, hx => absurd hf (Nat.not_lt_zero _)
  | f + 1, x, hf, hx => by
    have hup := h.ok.inv.up x hx
    by_cases hn : (r.nd x).par < 0
    · exact ⟨0, h.par0 x hx (by omega), (h.spV x hx).2⟩
    · obtain ⟨p, hp⟩ := Int.eq_ofNat_of_zero_le (show 0 ≤ (r.nd x).par by omega)
      have hpx := h.par x p hx hp
      obtain ⟨k, e1, e2⟩ := h.toRoot f p (by omega) (by omega)
      refine ⟨k + 1, ?_, ?_⟩
      · show parS S.runs (upN S.runs k (parS S.runs (sp x))) = _
        rw [hpx]; exact e1
      · show (upN S.runs k (parS S.runs (sp x))).run ≠ 0
        rw [hpx]; exact e2
theorem Corr.zeroV (h : Corr S r sp) : SpV S.runs .zero := ⟨h.runs.len, Int.le_refl _, fun _ => rfl⟩
/-- Where its origin stands, or the root. -/
theorem Corr.spotI (h : Corr S r sp) {c k : Int} (hf : (c = 0 ∧ k = 0) ∨ r.find c k ≠ -1) : S.spotOf c k = spI sp (r.find c k) := by
  by_cases e : r.find c k = -1
  · rcases hf with ⟨rfl, rfl⟩ | hf
    · rw [h.spot0, e]; rfl
    · exact absurd e hf
  · have hb := RS.find_lt (r := r) c k
    obtain ⟨y, hy⟩ := Int.eq_ofNat_of_zero_le (show 0 ≤ r.find c k by omega)
    rw [h.spotOf hy, hy]
    unfold spI
    rw [if_neg (by omega), Int.toNat_natCast]
/-- The parent, and which child it will be: the same. -/
theorem Corr.parentOf (h : Corr S r sp) (hD : Down S.runs) {u : Un} (hm : MayR r u) : S.parentOf u = (spI sp (r.node u).par, r.isL u) := by
  have hbl := RS.find_lt (r := r) u.lc u.lk
  have hbr := RS.find_lt (r := r) u.rc u.rk
  have eL := h.spotI hm.left
  have hpar : (r.node u).par = if r.isL u then r.find u.rc u.rk else r.find u.lc u.lk := rfl
  unfold SS.parentOf
  by_cases e : u.rc = 0 ∧ u.rk = 0
  · have hl : r.isL u = false := by
      unfold RS.isL
      rw [e.1, e.2, h.find0]; rfl
    rw [if_pos e, eL, hpar, hl]; rfl
  · have hne : r.find u.rc u.rk ≠ -1 := by
      rcases hm.right with q | q
      · exact absurd q e
      · exact q
    obtain ⟨y, hy⟩ := Int.eq_ofNat_of_zero_le (show 0 ≤ r.find u.rc u.rk by omega)
    have hyl : y < r.l.length := (RS.find_id hy).1
    have eR : S.spotOf u.rc u.rk = sp y := h.spotOf hy
    have hyV := (h.spV y hyl).1
    have hch : (childR S.runs (S.spotOf u.lc u.lk) (S.spotOf u.rc u.rk)).2 = r.isL u := by
      rw [eL, eR]
      unfold RS.isL
      rw [hy, Int.toNat_natCast]
      by_cases el : u.lc = 0 ∧ u.lk = 0
      · have e0 : spI sp (r.find u.lc u.lk) = .zero := by rw [el.1, el.2, h.find0]; rfl
        obtain ⟨k, k1, k2⟩ := h.toRoot r.l.length y hyl hyl
        rw [e0, childR_eq h.runs hD h.zeroV hyV k1 k2]
        simp [el]
      · have hnl : r.find u.lc u.lk ≠ -1 := by
          rcases hm.left with q | q
          · exact absurd q el
          · exact q
        obtain ⟨t, ht⟩ := Int.eq_ofNat_of_zero_le (show 0 ≤ r.find u.lc u.lk by omega)
        have htl : t < r.l.length := (RS.find_id ht).1
        have e0 : spI sp (r.find u.lc u.lk) = sp t := by
          unfold spI
          rw [if_neg (by omega), ht, Int.toNat_natCast]
        have htV := (h.spV t htl).1
        rw [e0, ht]
        have d1 : decide (0 ≤ (y : Int)) = true := by simp
        have d2 : decide (u.lc = 0 ∧ u.lk = 0) = false := by simpa using el
        rw [d1, d2, Bool.true_and, Bool.false_or]
        cases hu : r.ups (t : Int) r.l.length (r.nd y).par with
        | true =>
          obtain ⟨k, k1, k2⟩ := h.ups t _ y hyl hu
          rw [childR_eq h.runs hD htV hyV k1 k2]
        | false => exact childR_no h.runs hD htV hyV (h.noUps t htl _ y hyl hyl hu)
    rw [if_neg e, hch, hpar]
    cases hl : r.isL u with
    | true =>
      rw [if_pos rfl, if_pos rfl, eR, hy]
      unfold spI
      rw [if_neg (by omega), Int.toNat_natCast]
    | false => 
      rw [if_neg (by simp), if_neg (by simp), eL]
end
end Go.Proofs.YtdnhoicfolkbnaaGreat

/- Package seq against the document's tree, mathematics alone: what the search for the place sees at each spot. -/
namespace Go.Proofs.YtdnhoicfolkbnaaGreat
set_option linter.unusedVariables false
set_option linter.unusedSimpArgs false

/-- The search by halves finds where the answers turn. -/
theorem bis_at {p : Nat → Bool} {m : Nat} : ∀ (f i j : Nat), j - i ≤ f → i ≤ m → m ≤ j → (∀ q, i ≤ q → q < m → p q = false) → (∀ q, m ≤ q → q < j → p q = true) → bis p f i j = m
  | 0, i, j, hf, h1, h2, _, _ => by show i = m; omega
  | f + 1, i, j, hf, h1, h2, ha, hb => by
    rw [bis_succ]
    by_cases hij : i < j
    · rw [if_pos hij]
      rcases Nat.lt_or_ge ((i + j) / 2) m with hq | hq
      · rw [ha _ (by omega) hq, if_neg (by simp)]
        exact bis_at f _ j (by omega) (by omega) h2 (fun q a b => ha q (by omega) b) hb
      · rw [hb _ hq (by omega), if_pos rfl]
        exact bis_at f i _ (by omega) h1 hq ha (fun q a b => hb q a (by omega))
    · rw [if_neg hij]; omega
section
variable {S : SS} {r : RS} {sp : Nat → Sp}
/-- What stands in a child's walk is below it. -/
theorem Corr.below (h : Corr S r sp) : ∀ (f : Nat) (l : List Nat), r.Deep f l → ∀ x ∈ r.walk f l, ∃ c ∈ l, ∃ k, upN S.runs k (sp x) = sp c
  | 0, l, hd, x, hx => by simp [RS.walk] at hx
  | f + 1, [], hd, x, hx => by simp [RS.walk] at hx
  | f + 1, c :: l, hd, x, hx => by
    obtain ⟨h0, h1, h2⟩ := hd c (by simp)
    have hcl : ∀ y, y ∈ (r.nd c).lefts ∨ y ∈ (r.nd c).more → parS S.runs (sp y) = sp c := fun y hy => by
      rcases hy with hy | hy
      · exact h.par y c ((h.ok.inv.kids c h0).1 y hy) (h.ok.kidL c h0 y hy).1
      · exact h.par y c ((h.ok.inv.kids c h0).2 y hy) (h.ok.kidM c h0 y hy)
    rw [RS.walk_cons] at hx
    simp only [List.mem_append, List.mem_cons] at hx
    rcases hx with (hx | hx | hx) | hx
    · obtain ⟨y, hy, k, e⟩ := h.below f _ h1 x hx
      exact ⟨c, by simp, k + 1, by rw [upN_succ, e]; exact hcl y (.inl hy)⟩
    · exact ⟨c, by simp, 0, by rw [hx]; rfl⟩
    · obtain ⟨y, hy, k, e⟩ := h.below f _ h2 x hx
      exact ⟨c, by simp, k + 1, by rw [upN_succ, e]; exact hcl y (.inr hy)⟩
    · obtain ⟨y, hy, k, e⟩ := h.below (f + 1) l (fun q hq => hd q (List.mem_cons_of_mem _ hq)) x hx
      exact ⟨y, List.mem_cons_of_mem _ hy, k, e⟩
  termination_by f l => (f, l.length)
/-- What is below a node is in each set that holds it and its nodes' children. -/
theorem Corr.closed (h : Corr S r sp) (Q : Nat → Prop) (hQ : ∀ z, Q z → ∀ y, y ∈ (r.nd z).lefts ∨ y ∈ (r.nd z).more → Q y) {c : Nat} (hc : c < r.l.length) (hq : Q c) : ∀ (k x : Nat), x < r.l.length → upN S.runs k (sp x) = sp c → Q x
  | 0, x, hx, e => by rw [h.inj hx hc e]; exact hq
  | k + 1, x, hx, e => by
    have e' : upN S.runs k (parS S.runs (sp x)) = sp c := e
    rcases h.ok.conv x hx with ⟨e1, e2⟩ | ⟨z, hz, e1, e2⟩
    · rw [h.par0 x hx e1, up_zero h.runs] at e'
      exact absurd (by rw [← e']) (h.spV c hc).2
    · rw [h.par x z hx e1] at e'
      exact hQ z (h.closed Q hQ hc hq k z hz e') x e2
/-- A node's own walk: what is below it, and itself. -/
def RS.sub (r : RS) (g p : Nat) : List Nat := r.walk g (r.nd p).lefts ++ p :: r.walk g (r.nd p).more
theorem Corr.notBelow (h : Corr S r sp) {g p : Nat} (hp : p < r.l.length) (h1 : r.Deep g (r.nd p).lefts) (h2 : r.Deep g (r.nd p).more) {x : Nat} (hx : x < r.l.length) (hn : x ∉ r.sub g p) : NoC S.runs (sp p) (sp x) := fun k _ e => by
  refine hn (h.closed (fun z => z ∈ r.sub g p) (fun z hz y hy => ?_) hp (by unfold RS.sub; simp) (k + 1) x hx (by rw [upN_succ]; exact e))
  unfold RS.sub at hz ⊢
  simp only [List.mem_append, List.mem_cons] at hz ⊢
  rcases hz with hz | hz | hz
  · exact .inl (RS.mem_kids r g _ h1 z hz y hy)
  · subst hz
    rcases hy with hy | hy
    · exact .inl (RS.mem_root r g _ h1 y hy)
    · exact .inr (.inr (RS.mem_root r g _ h2 y hy))
  · exact .inr (.inr (RS.mem_kids r g _ h2 z hz y hy))
/-- What the search sees at a place. -/
theorem Corr.spotAt (h : Corr S r sp) {q : Nat} (hq : q < r.order.length) : S.spotAt (q : Int) = sp r.order[q] := by
  have hl := h.ok.inv.len
  have := h.inv.spotAt_get (q : Int) (by omega) (by rw [h.total]; omega)
  rw [Int.toNat_natCast, h.spots, List.getElem?_map, List.getElem?_eq_getElem hq] at this
  exact (Option.some.inj this).symm
theorem Corr.seeNo (h : Corr S r sp) (hD : Down S.runs) {u : Un} {left : Bool} {g p : Nat} (hp : p < r.l.length) (h1 : r.Deep g (r.nd p).lefts) (h2 : r.Deep g (r.nd p).more) {q : Nat} (hq : q < r.order.length) (hn : r.order[q] ∉ r.sub g p) : S.placeP u (sp p) left (q : Int) = !left := by
  have hx := h.ok.inv.lt _ (List.getElem_mem hq)
  unfold SS.placeP
  rw [h.spotAt hq, childR_no h.runs hD (h.spV p hp).1 (h.spV _ hx).1 (h.notBelow hp h1 h2 hx hn), if_neg (by simp)]
theorem Corr.see (h : Corr S r sp) (hD : Down S.runs) {u : Un} {left : Bool} {P : Sp} (hP : SpV S.runs P) {f : Nat} {l : List Nat} (hd : r.Deep f l) (hl : ∀ c ∈ l, c < r.l.length ∧ parS S.runs (sp c) = P) {b : Bool} (hb : ∀ c ∈ l, S.isAhead u (r.nd c).u = b) {q : Nat} (hq : q < r.order.length) (hw : r.order[q] ∈ r.walk f l) : S.placeP u P left (q : Int) = b := by
  have hx := h.ok.inv.lt _ (List.getElem_mem hq)
  obtain ⟨c, hc, k, e⟩ := h.below f l hd _ hw
  obtain ⟨c1, c2⟩ := hl c hc
  have e1 := childR_eq h.runs hD (p := P) hP (h.spV _ hx).1 (k := k) (by rw [e]; exact c2) (by rw [e]; exact (h.spV c c1).2)
  unfold SS.placeP
  rw [h.spotAt hq, e1, if_pos rfl]
  show S.isAhead u (S.unit (upN S.runs k _)) = b
  rw [e, h.unit c c1]
  exact hb c hc
end
end Go.Proofs.YtdnhoicfolkbnaaGreat

/- Package seq against the document's tree, mathematics alone: the place that the search finds is where the document puts the unit. -/
namespace Go.Proofs.YtdnhoicfolkbnaaGreat
set_option linter.unusedVariables false
set_option linter.unusedSimpArgs false

theorem RS.walk_append (r : RS) (a b : List Nat) : ∀ f, r.walk f (a ++ b) = r.walk f a ++ r.walk f b
  | 0 => rfl
  | f + 1 => by simp only [RS.walk]; rw [List.flatMap_append]
theorem RS.deep_sub (r : RS) {a b : List Nat} (hs : ∀ x ∈ a, x ∈ b) : ∀ f, r.Deep f b → r.Deep f a
  | 0, h => by
    have : b = [] := h
    subst this
    show a = []
    exact List.eq_nil_iff_forall_not_mem.2 fun x hx => (List.not_mem_nil (hs x hx)).elim
  | f + 1, h => fun x hx => h x (hs x hx)
/-- A leaf's walk. -/
theorem RS.walk_leaf (r : RS) {me : Nat} (h1 : (r.nd me).lefts = []) (h2 : (r.nd me).more = []) {g : Nat} (hg : 1 ≤ g) : r.walk g [me] = [me] := by
  obtain ⟨f, rfl⟩ : ∃ f, g = f + 1 := ⟨g - 1, by omega⟩
  rw [RS.walk_cons, h1, h2, RS.walk_nil, RS.walk_nil]; rfl
theorem count_nodup {l : List Nat} (h : ∀ x ∈ l, l.count x = 1) : l.Nodup := List.nodup_iff_count.2 fun x => by
  by_cases hx : x ∈ l
  · rw [h x hx]; exact Nat.le_refl _
  · rw [List.count_eq_zero.2 hx]; omega
theorem RInv.nodup {r : RS} (h : RInv r) : r.order.Nodup := count_nodup fun x hx => h.one x (h.lt x hx)
/-- Where a node stands. -/
theorem RInv.place_at {r : RS} (h : RInv r) {X Y : List Nat} {x : Nat} (e : r.order = X ++ x :: Y) : r.place (x : Int) = (X.length : Int) := by
  have hx : x < r.l.length := h.lt x (by rw [e]; simp)
  obtain ⟨i, hi, e1, e2⟩ := h.place_ok x hx
  have hX : X.length < r.order.length := by rw [e]; simp
  have e3 : r.order[X.length] = x := by simp [e]
  have hp := List.pairwise_iff_getElem.1 h.nodup
  have : i = X.length := by
    rcases Nat.lt_trichotomy i X.length with q | q | q
    · exact absurd (by rw [e1, e3]) (hp i X.length hi hX q)
    · exact q
    · exact absurd (by rw [e1, e3]) (hp X.length i hX hi q)
  rw [e2, this]
section
variable {S : SS} {r : RS} {sp : Nat → Sp}
theorem Corr.nd_ok (h : Corr S r sp) (x : Nat) (hx : x < r.l.length) : (r.nd x).u.ok := by
  obtain ⟨a, b, c, d⟩ := h.inv.spot_run (h.mem x hx)
  have f := h.inv.fst (sp x).run
  rw [← h.unit x hx]
  show (unitR S.runs (sp x)).ok
  unfold unitR
  split
  · exact f
  · next hp => 
    obtain ⟨f1, f2, f3, f4, f5, f6⟩ := f
    exact ⟨f1, by show 0 ≤ _ + (sp x).pos ∧ _ + (sp x).pos < _; omega, f1, by show 0 ≤ _ + (sp x).pos - 1 ∧ _ + (sp x).pos - 1 < _; omega, f5, f6⟩
/-- The search turns where the answers do. -/
theorem SS.turn {u : Un} {lo hi m : Nat} (hb : S.between u = ((lo : Int), (hi : Int), true)) (h1 : lo ≤ m) (h2 : m ≤ hi) (ha : ∀ q, lo ≤ q → q < m → S.placeP u (S.parentOf u).1 (S.parentOf u).2 (q : Int) = false) (hc : ∀ q, m ≤ q → q < hi → S.placeP u (S.parentOf u).1 (S.parentOf u).2 (q : Int) = true) : S.placeFor u = (m : Int) := by
  unfold SS.placeFor SS.placeOf
  rw [hb]
  show (lo : Int) + (bis (fun i : Nat => S.placeP u (S.parentOf u).1 (S.parentOf u).2 ((lo : Int) + (i : Int))) ((hi : Int) - (lo : Int)).toNat 0 ((hi : Int) - (lo : Int)).toNat : Nat) = _
  have e : ((hi : Int) - (lo : Int)).toNat = hi - lo := by omega
  rw [e, bis_at (m := m - lo) (hi - lo) 0 (hi - lo) (by omega) (by omega) (by omega) (fun q a b => ?_) (fun q a b => ?_)]
  · omega
  · have := ha (lo + q) (by omega) (by omega)
    rw [Int.natCast_add] at this; exact this
  · have := hc (lo + q) (by omega) (by omega)
    rw [Int.natCast_add] at this; exact this
/-- Between which places. -/
theorem Corr.between (h : Corr S r sp) {u : Un} (hu : u.ok) (hm : MayR r u) : S.between u = (r.findP u.lc u.lk + 1, S.rightOf u, true) := by
  have hmay : S.may u 1 = true := by rw [h.may hu]; exact may_r.2 hm
  obtain ⟨_, _, _, _, d⟩ := may_iff.1 hmay
  unfold SS.between at d ⊢
  split at d
  · cases d
  · next hn => rw [if_neg hn, h.find hu.lc hu.lk.1]
theorem Corr.left_lo (h : Corr S r sp) {c k : Int} : (r.find c k = -1 ∧ r.findP c k + 1 = 0) ∨ ∃ t : Nat, t < r.l.length ∧ r.find c k = (t : Int) ∧ r.findP c k = r.place (t : Int) := by
  have hb := RS.find_lt (r := r) c k
  unfold RS.findP
  by_cases e : r.find c k < 0
  · rw [if_pos e]; exact .inl ⟨by omega, rfl⟩
  · rw [if_neg e]
    obtain ⟨t, ht⟩ := Int.eq_ofNat_of_zero_le (show 0 ≤ r.find c k by omega)
    exact .inr ⟨t, (RS.find_id ht).1, ht, by rw [ht]⟩
/-- A right child of the root. -/
theorem Corr.place0 (h : Corr S r sp) {u : Un} (hu : u.ok) (hm : MayR r u) (hL : r.isL u = false) (hf : r.find u.lc u.lk = -1) (hk : ∀ x, x < r.l.length → SameK r (r.laid u) x) (hs : (r.laid u).more = (r.with1 u).amongL r.more r.l.length) : ∃ A B, r.order = A ++ B ∧ (r.laid u).order = A ++ r.l.length :: B ∧ S.placeFor u = (A.length : Int) := by
  have L := laid1 r u
  have hD := h.inv.down
  have hI' := (h.ok.inv.laidI u).1
  have hme : (r.laid u).nd r.l.length = r.node u := L.me
  have hur : RgtOk r u := hm.right
  obtain ⟨t1, t2⟩ := take_len_while (p := fun x => (r.with1 u).farther x r.l.length) r.more
  generalize hT : r.more.takeWhile (fun x => (r.with1 u).farther x r.l.length) = T at *
  generalize hDr : r.more.dropWhile (fun x => (r.with1 u).farther x r.l.length) = D at *
  have emore : r.more = T ++ D := by rw [← hT, ← hDr]; exact List.takeWhile_append_dropWhile.symm
  have emore' : (r.laid u).more = T ++ [r.l.length] ++ D := by
    rw [hs]; unfold RS.amongL withinL
    rw [hT, t1, t2]; simp
  have hd := RS.deep_up r _ _ h.ok.inv.deep
  have hdT : r.Deep (r.l.length + 1) T := RS.deep_sub r (fun x hx => by rw [emore]; exact List.mem_append_left _ hx) _ hd
  have hdD : r.Deep (r.l.length + 1) D := RS.deep_sub r (fun x hx => by rw [emore]; exact List.mem_append_right _ hx) _ hd
  have eo : r.order = r.walk (r.l.length + 1) T ++ r.walk (r.l.length + 1) D := by
    rw [← RS.walk_append, ← emore, RS.walk_fuel r _ _ h.ok.inv.deep]; exact h.ok.inv.ord
  have sT : (r.laid u).walk (r.l.length + 1) T = r.walk (r.l.length + 1) T := RS.walk_same _ _ _ _ fun x hx => hk x (RS.mem_lt r _ _ hdT x hx)
  have sD : (r.laid u).walk (r.l.length + 1) D = r.walk (r.l.length + 1) D := RS.walk_same _ _ _ _ fun x hx => hk x (RS.mem_lt r _ _ hdD x hx)
  have es : (r.laid u).order = r.walk (r.l.length + 1) T ++ r.l.length :: r.walk (r.l.length + 1) D := by
    rw [hI'.ord, L.len, emore', RS.walk_append, RS.walk_append, sT, sD, RS.walk_leaf _ (by rw [hme]; rfl) (by rw [hme]; rfl) (by omega)]
    simp
  refine ⟨_, _, eo, es, ?_⟩
  have hR : u.rc = 0 ∧ u.rk = 0 := by
    refine Decidable.byContradiction fun e => ?_
    have hne : r.find u.rc u.rk ≠ -1 := by
      rcases hm.right with q | q
      · exact absurd q e
      · exact q
    have hb := RS.find_lt (r := r) u.rc u.rk
    have hl0 : u.lc = 0 ∧ u.lk = 0 := by
      rcases hm.left with q | q
      · exact q
      · exact absurd hf q
    unfold RS.isL at hL
    rw [decide_eq_true (by omega : 0 ≤ r.find u.rc u.rk), decide_eq_true hl0] at hL
    simp at hL
  have hbt := h.between hu hm
  have hlo : r.findP u.lc u.lk + 1 = 0 := by
    unfold RS.findP
    rw [if_pos (by omega)]; rfl
  have hhi : S.rightOf u = (r.order.length : Int) := by
    unfold SS.rightOf
    rw [if_pos hR, h.total, h.ok.inv.len]
  have hp := h.parentOf hD hm
  have hp1 : (S.parentOf u).1 = .zero := by
    rw [hp]
    show spI sp (if r.isL u then r.find u.rc u.rk else r.find u.lc u.lk) = _
    rw [hL, if_neg (by simp), hf]; rfl
  have hp2 : (S.parentOf u).2 = false := by rw [hp]; exact hL
  rw [hlo, hhi] at hbt
  have kids : ∀ c ∈ r.more, c < r.l.length ∧ parS S.runs (sp c) = .zero := fun c hc => ⟨h.ok.inv.root c hc, h.par0 c (h.ok.inv.root c hc) (h.ok.kid0 c hc)⟩
  have ah : ∀ c, c < r.l.length → S.isAhead u (r.nd c).u = r.fart u (r.nd c).u := fun c hc => h.ahead hu (h.nd_ok c hc) hur (h.ok.rgt c hc)
  have pe : ∀ x, x < r.l.length → (r.with1 u).farther x r.l.length = r.fart (r.nd x).u u := fun x hx' => by
    rw [RS.farther_eq, with1_nd, if_neg (by omega), with1_nd, if_pos rfl]
    exact fart_with1 r u (h.ok.rgt x hx') hur
  have aT : ∀ c ∈ T, S.isAhead u (r.nd c).u = false := fun c hc => by
    have hcm : c ∈ r.more := by rw [emore]; exact List.mem_append_left _ hc
    have hcl := (kids c hcm).1
    rw [ah c hcl]
    have e1 : r.fart (r.nd c).u u = true := by
      rw [← pe c hcl]
      exact List.all_eq_true.1 (List.all_takeWhile (p := fun x => (r.with1 u).farther x r.l.length) (l := r.more)) c (by rw [hT]; exact hc)
    cases e2 : r.fart u (r.nd c).u with
    | false => rfl
    | true =>
      rw [RS.fart_iff] at e1 e2
      omega
  have aD : ∀ c ∈ D, S.isAhead u (r.nd c).u = true := fun c hc => by
    have hcm : c ∈ r.more := by rw [emore]; exact List.mem_append_right _ hc
    have hcl := (kids c hcm).1
    rw [ah c hcl]
    have hs0 := h.ok.sort0
    rw [emore] at hs0
    have hs1 := (List.pairwise_append.1 hs0).2.1
    have newid : ∀ y, y < r.l.length → ¬ ((r.nd y).u.c = u.c ∧ (r.nd y).u.k = u.k) := fun y hy e => RS.find_ex hy e.1 e.2 hm.new
    cases hd : D with
    | nil => rw [hd] at hc; exact (List.not_mem_nil hc).elim
    | cons z D' =>
      have hz : (r.with1 u).farther z r.l.length = false := by
        have := List.head?_dropWhile_not (fun x => (r.with1 u).farther x r.l.length) r.more
        rw [hDr, hd] at this
        simpa using this
      have hzl := (kids z (by rw [emore, hd]; simp)).1
      have hz1 : r.fart u (r.nd z).u = true := RS.fart_total r (by rw [← pe z hzl]; exact hz) (newid z hzl)
      rw [hd] at hs1 hc
      rcases List.mem_cons.1 hc with rfl | hc
      · exact hz1
      · have := (List.pairwise_cons.1 hs1).1 c hc
        rw [RS.farther_eq] at this
        exact RS.fart_trans r hz1 this
  refine SS.turn (lo := 0) (hi := r.order.length) hbt (Nat.zero_le _) (by rw [eo]; simp) (fun q _ hq => ?_) (fun q hq hq2 => ?_)
  · have hq' : q < r.order.length := by rw [eo, List.length_append]; omega
    rw [hp1]
    refine h.see hD h.zeroV hdT (fun c hc => kids c (by rw [emore]; exact List.mem_append_left _ hc)) aT hq' ?_
    have : r.order[q] = (r.walk (r.l.length + 1) T)[q] := by simp only [eo]; exact List.getElem_append_left hq
    rw [this]; exact List.getElem_mem _
  · rw [hp1]
    refine h.see hD h.zeroV hdD (fun c hc => kids c (by rw [emore]; exact List.mem_append_right _ hc)) aD hq2 ?_
    have : r.order[q] = (r.walk (r.l.length + 1) D)[q - (r.walk (r.l.length + 1) T).length]'(by rw [eo, List.length_append] at hq2; omega) := by simp only [eo]; exact List.getElem_append_right hq
    rw [this]; exact List.getElem_mem _
end
end Go.Proofs.YtdnhoicfolkbnaaGreat
