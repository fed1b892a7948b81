/- Package seq against the document's tree, mathematics alone: a run of units is its units one by one, in both. -/
import Derived.Test.YtdnhoicfolkbnaaGreatPart34
namespace Go.Proofs.YtdnhoicfolkbnaaGreat
set_option linter.unusedVariables false
set_option linter.unusedSimpArgs false

theorem ROk.find0 {r : RS} (h : ROk r) : r.find 0 0 = -1 := by
  refine Decidable.byContradiction fun e => ?_
  have hb := RS.find_lt (r := r) 0 0
  obtain ⟨y, hy⟩ := Int.eq_ofNat_of_zero_le (show 0 ≤ r.find 0 0 by omega)
  obtain ⟨f0, f1, f2⟩ := RS.find_id hy
  have := (h.id y f0).1
  rw [f1] at this
  exact absurd this (by decide)
theorem ROk.find_at {r : RS} (h : ROk r) {x : Nat} (hx : x < r.l.length) {c k : Int} (hc : (r.nd x).u.c = c) (hk : (r.nd x).u.k = k) : r.find c k = (x : Int) := by
  have hne := RS.find_ex hx hc hk
  have hb := RS.find_lt (r := r) c k
  obtain ⟨y, hy⟩ := Int.eq_ofNat_of_zero_le (show 0 ≤ r.find c k by omega)
  obtain ⟨f0, f1, f2⟩ := RS.find_id hy
  rw [hy, h.uniq y x f0 hx (by omega) (by omega)]
/-- A right child of a leaf stands right behind it. -/
theorem ROk.leaf {r : RS} (h : ROk r) {u : Un} {t : Nat} (hL : r.isL u = false) (hf : r.find u.lc u.lk = (t : Int)) (h1 : (r.nd t).lefts = []) (h2 : (r.nd t).more = []) {A B : List Nat} (eo : r.order = A ++ t :: B) : (r.laid u).order = A ++ t :: r.l.length :: B := by
  have L := laid1 r u
  have hI := h.inv
  have hI' := (hI.laidI u).1
  rcases L.put with ⟨e1, _⟩ | ⟨_, _, ⟨e3, p, e4, e5, e6, e7, e8⟩ | ⟨e4, _⟩⟩
  · rw [hL] at e1; cases e1
  · have hpt : p = t := by omega
    subst hpt
    have eoW : r.walk (r.l.length + 1) r.more = r.order := by rw [RS.walk_fuel r _ _ hI.deep]; exact hI.ord.symm
    have esW : (r.laid u).order = (r.laid u).walk (r.l.length + 1) r.more := by rw [hI'.ord, L.len, e3]
    obtain ⟨g, A', B', g1, d1, d2, ea, eb⟩ := RS.ctx r (r.laid u) p r.l.length r.more hI.deep (by rw [eoW]; exact List.count_pos_iff.1 (by rw [hI.one p e5]; omega)) (by rw [eoW]; exact hI.one p e5) (fun x hx hxp => e6 x (hI.lt x (by rw [← eoW]; exact hx)) hxp)
    have wn : ∀ (q : RS), q.walk g [] = [] := fun q => by cases g <;> rfl
    have hme : (r.laid u).nd r.l.length = r.node u := L.me
    have em : (r.with1 u).amongL (r.nd p).more r.l.length = [r.l.length] := by rw [h2]; rfl
    rw [eoW, h1, h2, wn] at ea
    rw [← esW, e7, e8, em, h1, wn, RS.walk_leaf _ (by rw [hme]; rfl) (by rw [hme]; rfl) g1] at eb
    have ea' : r.order = A' ++ p :: B' := by rw [ea]; simp
    have q1 := hI.place_at eo
    have q2 := hI.place_at ea'
    have hlen : A.length = A'.length := by omega
    rw [eo] at ea'
    obtain ⟨r1, r2⟩ := List.append_inj ea' hlen
    rw [List.cons.injEq] at r2
    rw [eb, r1, r2.2]
    simp
  · omega
def RS.inserts (r : RS) (us : List Un) : RS := us.foldl (fun r u => r.insert u) r
/-- What a run leaves. -/
structure RunR (r s : RS) (u : Un) (A B : List Nat) (j : Nat) : Prop where
  ok : ROk s
  len : s.l.length = r.l.length + j
  order : s.order = A ++ List.range' r.l.length j ++ B
  old : ∀ x, x < r.l.length → (s.nd x).u = (r.nd x).u ∧ (s.nd x).par = (r.nd x).par
  new : ∀ i, i < j → (s.nd (r.l.length + i)).u = runUn u i
  par0 : (s.nd r.l.length).par = (r.node u).par
  par : ∀ i, i + 1 < j → (s.nd (r.l.length + (i + 1))).par = ((r.l.length + i : Nat) : Int)
  leaf : ∀ i, i + 1 = j → (s.nd (r.l.length + i)).lefts = [] ∧ (s.nd (r.l.length + i)).more = []
theorem ROk.runR {r : RS} (h : ROk r) {u : Un} (hm : MayR r u) {n : Nat} (hk : u.k + (n : Int) ≤ 9007199254740992) (hfree : ∀ j : Nat, j < n → r.find u.c (u.k + (j : Int)) = -1) {A B : List Nat} (eo : r.order = A ++ B) (es : (r.laid u).order = A ++ r.l.length :: B) (hR : ∀ y : Nat, r.find u.rc u.rk = (y : Int) → (A.length : Int) ≤ r.place (y : Int)) : ∀ j, 1 ≤ j → j ≤ n → RunR r (r.inserts (runUns u j)) u A B j
  | 0, h0, _ => absurd h0 (by omega)
  | 1, _, _ => by
    have L := laid1 r u
    have e : r.inserts (runUns u 1) = r.laid u := by
      show r.insert (runUn u 0) = _
      unfold RS.insert runUn
      rw [if_pos rfl, may_r.2 hm]; rfl
    have hme : (r.laid u).nd r.l.length = r.node u := L.me
    rw [e]
    refine ⟨h.laid hm, L.len, by rw [es]; simp, L.old, fun i hi => ?_, by rw [hme], fun i hi => by omega, fun i hi => ?_⟩
    · have : i = 0 := by omega
      subst this
      rw [Nat.add_zero, hme]; rfl
    · have : i = 0 := by omega
      subst this
      rw [Nat.add_zero, hme]; exact ⟨rfl, rfl⟩
  | j + 2, _, hj => by
    have ih := h.runR hm hk hfree eo es hR (j + 1) (by omega) (by omega)
    have e : r.inserts (runUns u (j + 2)) = (r.inserts (runUns u (j + 1))).insert (runUn u (j + 1)) := by
      unfold RS.inserts
      rw [runUns_succ, List.foldl_append]; rfl
    generalize r.inserts (runUns u (j + 1)) = s at ih e
    rw [e]
    have hv : runUn u (j + 1) = ⟨u.c, u.k + ((j + 1 : Nat) : Int), u.c, u.k + ((j + 1 : Nat) : Int) - 1, u.rc, u.rk⟩ := by unfold runUn; rw [if_neg (by omega)]
    generalize runUn u (j + 1) = v at hv
    have hcn : 1 ≤ u.c ∧ u.c ≤ 9007199254740991 := by simpa [numOk] using hm.c
    have hkn : 1 ≤ u.k ∧ u.k ≤ 9007199254740991 := by simpa [numOk] using hm.k
    have htl : r.l.length + j < s.l.length := by have := ih.len; omega
    have htu := ih.new j (by omega)
    obtain ⟨t1, t2, t3, t4⟩ := runUn_c u j
    have hft : s.find v.lc v.lk = ((r.l.length + j : Nat) : Int) := by
      refine ih.ok.find_at htl ?_ ?_
      · rw [htu, t1, hv]
      · rw [htu, t2, hv]
        show u.k + (j : Int) = u.k + ((j + 1 : Nat) : Int) - 1
        omega
    have hL : s.isL v = false := ih.ok.notL ih.ok.find0 htl hft (by rw [htu, t3, hv]) (by rw [htu, t4, hv])
    -- the order ahead of it
    have hord : s.order = (A ++ List.range' r.l.length j) ++ (r.l.length + j) :: B := by
      rw [ih.order, List.range'_concat]
      simp
    have hmv : MayR s v := by
      refine ⟨by rw [hv]; exact hm.c, ?_, ?_, .inr (by rw [hft]; omega), ?_, ?_⟩
      · rw [hv]
        show numOk (u.k + ((j + 1 : Nat) : Int)) = true
        simp only [numOk, Bool.and_eq_true, decide_eq_true_eq]
        omega
      · refine Decidable.byContradiction fun q => ?_
        have hb := RS.find_lt (r := s) v.c v.k
        obtain ⟨y, hy⟩ := Int.eq_ofNat_of_zero_le (show 0 ≤ s.find v.c v.k by omega)
        obtain ⟨f0, f1, f2⟩ := RS.find_id hy
        rw [hv] at f1 f2
        by_cases hyl : y < r.l.length
        · rw [(ih.old y hyl).1] at f1 f2
          exact RS.find_ex hyl f1 f2 (hfree (j + 1) (by omega))
        · obtain ⟨i, rfl⟩ : ∃ i, y = r.l.length + i := ⟨y - r.l.length, by omega⟩
          have hl := ih.len
          have hi : i < j + 1 := by omega
          rw [ih.new i hi, (runUn_c u i).2.1] at f2
          have f2' : u.k + (i : Int) = u.k + ((j + 1 : Nat) : Int) := f2
          omega
      · rw [hv]
        show (u.rc = 0 ∧ u.rk = 0) ∨ s.find u.rc u.rk ≠ -1
        rcases hm.right with q | q
        · exact .inl q
        · have hb := RS.find_lt (r := r) u.rc u.rk
          obtain ⟨y, hy⟩ := Int.eq_ofNat_of_zero_le (show 0 ≤ r.find u.rc u.rk by omega)
          obtain ⟨f0, f1, f2⟩ := RS.find_id hy
          exact .inr (RS.find_ex (y := y) (by have := ih.len; omega) (by rw [(ih.old y f0).1]; exact f1) (by rw [(ih.old y f0).1]; exact f2))
      · intro _ q
        rw [hft, ih.ok.inv.place_at hord]
        rw [hv] at q ⊢
        have hb := RS.find_lt (r := s) u.rc u.rk
        show _ < s.place (s.find u.rc u.rk)
        have q' : s.find u.rc u.rk ≠ -1 := q
        have hnr : r.find u.rc u.rk ≠ -1 := by
          rcases hm.right with q0 | q0
          · rw [q0.1, q0.2, ih.ok.find0] at q'
            exact absurd rfl q'
          · exact q0
        have hb2 := RS.find_lt (r := r) u.rc u.rk
        obtain ⟨y, hy⟩ := Int.eq_ofNat_of_zero_le (show 0 ≤ r.find u.rc u.rk by omega)
        obtain ⟨f0, f1, f2⟩ := RS.find_id hy
        have hsy : s.find u.rc u.rk = (y : Int) := ih.ok.find_at (by have := ih.len; omega) (by rw [(ih.old y f0).1]; exact f1) (by rw [(ih.old y f0).1]; exact f2)
        rw [hsy]
        have hpl := hR y hy
        obtain ⟨i, hi, i1, i2⟩ := h.inv.place_ok y f0
        have hyB : y ∈ B := by
          rw [← i1]
          have hlo : r.order.length = A.length + B.length := by rw [eo, List.length_append]
          exact mem_mid (X := A) (Y := B) (Z := []) (by rw [eo]; simp) hi (by omega) (by omega)
        obtain ⟨B1, B2, eB⟩ := List.append_of_mem hyB
        have hord2 : s.order = (A ++ List.range' r.l.length (j + 1) ++ B1) ++ y :: B2 := by rw [ih.order, eB]; simp
        rw [ih.ok.inv.place_at hord2]
        simp only [List.length_append, List.length_range']
        omega
    have hin : s.insert v = s.laid v := by unfold RS.insert; rw [may_r.2 hmv]; rfl
    rw [hin]
    have L := laid1 s v
    have hpar : (s.node v).par = ((r.l.length + j : Nat) : Int) := by
      show (if s.isL v then _ else _) = _
      rw [hL]; exact hft
    have hlf := ih.leaf j rfl
    have hsl : s.l.length = r.l.length + (j + 1) := ih.len
    have hnew : (s.laid v).nd (r.l.length + (j + 1)) = s.node v := by rw [← hsl]; exact L.me
    refine ⟨ih.ok.laid hmv, by rw [L.len, hsl]; omega, ?_, fun x hx => ?_, fun i hi => ?_, ?_, fun i hi => ?_, fun i hi => ?_⟩
    · rw [ih.ok.leaf hL hft hlf.1 hlf.2 hord, hsl, show j + 2 = j + 1 + 1 from rfl, List.range'_concat, List.range'_concat]
      simp
    · have := L.old x (by omega)
      have h2 := ih.old x hx
      exact ⟨this.1.trans h2.1, this.2.trans h2.2⟩
    · by_cases hij : i = j + 1
      · subst hij
        rw [hnew, hv]
        show (⟨u.c, _, _, _, _, _⟩ : Un) = _
        unfold runUn
        rw [if_neg (by omega)]
      · rw [(L.old _ (by omega)).1]
        exact ih.new i (by omega)
    · rw [(L.old _ (by omega)).2]; exact ih.par0
    · by_cases hij : i = j
      · subst hij
        rw [hnew]; exact hpar
      · rw [(L.old _ (by omega)).2]
        exact ih.par i (by omega)
    · have : i = j + 1 := by omega
      subst this
      rw [hnew]; exact ⟨rfl, rfl⟩
/-- No unit there has one of these ids. -/
theorem Inv.free_units {S : SS} (h : Inv S) {c k n : Int} (hn : 1 ≤ n) (hf : S.hasAny c k n = false) {v : Un} (hv : v ∈ S.units) : ¬ (v.c = c ∧ k ≤ v.k ∧ v.k < k + n) := by
  rintro ⟨q1, q2, q3⟩
  obtain ⟨x, hx, rfl⟩ := List.mem_map.1 hv
  obtain ⟨i, hi, hxi⟩ := List.mem_flatMap.1 (show x ∈ S.ord.flatMap S.pcSp from hx)
  obtain ⟨j, hj, rfl⟩ := spotsFrom_mem hxi
  obtain ⟨l1, l2⟩ := (h.ordF.lab i).1 hi
  have hp := h.pcs i (by omega) l2
  have e1 : (S.first i).c = (rn S.runs (S.pc i).run).first.c := SS.unit_c S _
  have e2 : (S.first i).k = (rn S.runs (S.pc i).run).first.k + (S.pc i).pos := SS.unit_k S _
  rw [SS.unit_c] at q1
  rw [SS.unit_k] at q2 q3
  have q1' : (rn S.runs (S.pc i).run).first.c = c := q1
  have q2' : k ≤ (rn S.runs (S.pc i).run).first.k + ((S.pc i).pos + (j : Int)) := q2
  have q3' : (rn S.runs (S.pc i).run).first.k + ((S.pc i).pos + (j : Int)) < k + n := q3
  have := h.free hn hf i (by omega) l2
  omega
theorem Inv.placeHi {S : SS} (h : Inv S) {u : Un} (hu : u.ok) (hb : (S.between u).2.2 = true) : S.placeFor u ≤ S.rightOf u ∧ S.find u.lc u.lk + 1 ≤ S.placeFor u := by
  obtain ⟨b1, b2, b3, b4, b5, b6⟩ := h.betw hu hb
  unfold SS.placeFor SS.placeOf
  have := bis_le (p := fun i => S.placeP u (S.parentOf u).1 (S.parentOf u).2 ((S.between u).1 + (i : Int))) ((S.between u).2.1 - (S.between u).1).toNat 0 ((S.between u).2.1 - (S.between u).1).toNat (Nat.zero_le _)
  rw [b3, b4] at this ⊢
  omega
section
variable {S : SS} {r : RS} {sp : Nat → Sp}
/-- How a run is refused. -/
def RS.free (r : RS) (c k : Int) (n : Nat) : Bool := (List.range n).all fun j : Nat => decide (r.find c (k + (j : Int)) < 0)
def RS.mayN (r : RS) (u : Un) (n : Int) : Bool := decide (1 ≤ n) && numOk u.c && numOk u.k && decide (n - 1 ≤ 9007199254740991 - u.k) && r.free u.c u.k n.toNat && r.may u
def RS.runN (r : RS) (u : Un) (n : Int) : RS := if r.mayN u n then r.inserts (runUns u n.toNat) else r
theorem RS.free_iff (r : RS) (c k : Int) (n : Nat) : r.free c k n = true ↔ ∀ j : Nat, j < n → r.find c (k + (j : Int)) = -1 := by
  unfold RS.free
  rw [List.all_eq_true]
  constructor
  · intro h j hj
    have := h j (List.mem_range.2 hj)
    have hb := RS.find_lt (r := r) c (k + (j : Int))
    simp only [decide_eq_true_eq] at this
    omega
  · intro h j hj
    have := h j (List.mem_range.1 hj)
    simp only [decide_eq_true_eq]
    omega
theorem Corr.mayN (h : Corr S r sp) {u : Un} (hu : u.ok) (n : Int) : S.may u n = r.mayN u n := by
  have hm1 := h.may hu
  have key : S.may u n = true ↔ r.mayN u n = true := by
    rw [may_iff]
    unfold RS.mayN
    simp only [Bool.and_eq_true, decide_eq_true_eq]
    rw [RS.free_iff, ← hm1, may_iff]
    constructor
    · rintro ⟨⟨a, b⟩, c, d, e, f⟩
      have hcn : 1 ≤ u.c ∧ u.c ≤ 9007199254740991 := by simpa [numOk] using a
      have hfr : ∀ j : Nat, j < n.toNat → r.find u.c (u.k + (j : Int)) = -1 := fun j hj => by
        refine Decidable.byContradiction fun q => ?_
        have hb := RS.find_lt (r := r) u.c (u.k + (j : Int))
        obtain ⟨y, hy⟩ := Int.eq_ofNat_of_zero_le (show 0 ≤ r.find u.c (u.k + (j : Int)) by omega)
        obtain ⟨f0, f1, f2⟩ := RS.find_id hy
        have hmem : (r.nd y).u ∈ S.units := by
          rw [h.units]
          exact List.mem_map.2 ⟨y, List.count_pos_iff.1 (by rw [h.ok.inv.one y f0]; omega), rfl⟩
        exact h.inv.free_units c e hmem ⟨f1, by omega, by omega⟩
      have hkn : 1 ≤ u.k ∧ u.k ≤ 9007199254740991 := by simpa [numOk] using b
      refine ⟨⟨⟨⟨⟨c, a⟩, b⟩, d⟩, hfr⟩, ⟨a, b⟩, by omega, by omega, ?_, f⟩
      have h0 := hfr 0 (by omega)
      cases hh : S.hasAny u.c u.k 1 with
      | false => rfl
      | true =>
        have := (h.inv.hasAny_one hcn.1 hu.k.1).1 hh
        rw [h.find hu.c hu.k.1] at this
        unfold RS.findP at this
        rw [show r.find u.c u.k = -1 by simpa using h0, if_pos (by omega)] at this
        exact absurd rfl this
    · rintro ⟨⟨⟨⟨⟨c, a⟩, b⟩, d⟩, hfr⟩, _, _, _, _, f⟩
      have hcn : 1 ≤ u.c ∧ u.c ≤ 9007199254740991 := by simpa [numOk] using a
      refine ⟨⟨a, b⟩, c, d, ?_, f⟩
      refine h.inv.hasAny_false hcn.1 hu.k.1 c fun v hv => ?_
      rintro ⟨q1, q2, q3⟩
      rw [h.units] at hv
      obtain ⟨x, hx, rfl⟩ := List.mem_map.1 hv
      have := hfr ((r.nd x).u.k - u.k).toNat (by omega)
      exact RS.find_ex (h.ok.inv.lt x hx) q1 (by omega) this
  cases e1 : S.may u n <;> cases e2 : r.mayN u n <;> simp_all
/-- A run in both. -/
theorem Corr.stepN (h : Corr S r sp) {u : Un} (hu : u.ok) {n : Nat} (hn : 1 ≤ n) (hmay : S.may u n = true) {N : Nat} (hz : Size S N) (hN : N + n ≤ 1000000) : ∃ sp', Corr (S.run u n) (r.inserts (runUns u n)) sp' := by
  have hmN : r.mayN u n = true := by rw [← h.mayN hu]; exact hmay
  unfold RS.mayN at hmN
  simp only [Bool.and_eq_true, decide_eq_true_eq] at hmN
  obtain ⟨⟨⟨⟨⟨m0, m1⟩, m2⟩, m3⟩, m4⟩, m5⟩ := hmN
  have hm := may_r.1 m5
  rw [RS.free_iff, Int.toNat_natCast] at m4
  have z1 := hz.tot
  have z2 := hz.pcs
  have z3 := hz.runs
  obtain ⟨hI', _⟩ := h.inv.runI (u := u) (n := (n : Int)) hu (fun _ => by omega) (by omega) (by omega)
  obtain ⟨⟨a, b⟩, c, d, e, f⟩ := may_iff.1 hmay
  have hnc : 1 ≤ u.c ∧ u.c ≤ 9007199254740991 := by simpa [numOk] using a
  have hnk : 1 ≤ u.k ∧ u.k ≤ 9007199254740991 := by simpa [numOk] using b
  obtain ⟨p0, p1⟩ := h.inv.placeLe hu f
  obtain ⟨A, B, eo, es, ep⟩ := h.place hu hm
  obtain ⟨y, y1, y2, y3, y4⟩ := h.inv.lay_spots (S.placeFor u) p0 p1 (by omega) u hnc.1 (S.parentOf u).1 n hn
  have e1 : S.run u n = S.lay (S.placeFor u) u (S.parentOf u).1 n := by unfold SS.run; rw [if_pos hmay]; rfl
  rw [← e1] at y1 y2 y3 y4
  have hD : Down S.runs := h.inv.down
  have hpar := h.parentOf hD hm
  have f0 := h.find0
  have hlt : ∀ x ∈ A ++ B, x < r.l.length := fun x hx => h.ok.inv.lt x (by rw [eo]; exact hx)
  have hbl := RS.find_lt (r := r) u.lc u.lk
  have hbr := RS.find_lt (r := r) u.rc u.rk
  have hpb : -1 ≤ (r.node u).par ∧ (r.node u).par < (r.l.length : Int) := by
    show -1 ≤ (if r.isL u then _ else _) ∧ (if r.isL u then _ else _) < _
    split
    · exact hbr
    · exact hbl
  have hR : ∀ q : Nat, r.find u.rc u.rk = (q : Int) → (A.length : Int) ≤ r.place (q : Int) := fun q hq => by
    have hle := (h.inv.placeHi hu f).1
    rw [ep] at hle
    have e0 : ¬ (u.rc = 0 ∧ u.rk = 0) := fun q0 => by rw [q0.1, q0.2, f0] at hq; omega
    unfold SS.rightOf at hle
    rw [if_neg e0, h.find hu.rc hu.rk.1] at hle
    unfold RS.findP at hle
    rw [hq, if_neg (by omega)] at hle
    exact hle
  have T := h.ok.runR hm (n := n) (by omega) m4 eo es hR n hn (Nat.le_refl _)
  have hpos : 0 ≤ y.pos := by
    rcases y4 with ⟨e, _⟩ | ⟨_, e, _⟩
    · rw [e]; exact Int.le_refl _
    · omega
  have hparO : ∀ x, x < r.l.length → parS (S.run u n).runs (sp x) = parS S.runs (sp x) := fun x hx => by
    rcases y4 with ⟨_, q⟩ | ⟨_, _, _, _, q⟩
    · rw [q, parS_more _ _ _ (h.spV x hx).1.1]
    · rw [q]
  have hparN : parS (S.run u n).runs y = spI sp (r.node u).par := by
    rcases y4 with ⟨q1, q⟩ | ⟨q1, q2, q3, q4, q⟩
    · rw [q, q1]
      unfold parS
      rw [if_pos rfl, rn_snoc, if_neg (Nat.lt_irrefl _), if_pos rfl, hpar]
    · have hpp : parS (S.run u n).runs y = ⟨y.run, y.pos - 1⟩ := by unfold parS; rw [if_neg (by omega)]
      rw [hpp]
      rw [h.spots, List.getElem?_map] at q4
      cases ht : r.order[(S.placeFor u).toNat - 1]? with
      | none => rw [ht] at q4; cases q4
      | some t =>
        rw [ht] at q4
        have q5 : sp t = ⟨y.run, y.pos - 1⟩ := by simpa using q4
        have htl : t < r.l.length := h.ok.inv.lt t (List.mem_of_getElem? ht)
        have hut := h.unit t htl
        have huy : S.unit y = u := by rw [← y2]; exact (y3 y q1).symm
        have hv := (h.spV t htl).1
        rw [q5] at hut hv
        have hv2 : 0 ≤ y.pos - 1 := hv.2.1
        have k1 : u.lc = (r.nd t).u.c ∧ u.lk = (r.nd t).u.k ∧ u.rc = (r.nd t).u.rc ∧ u.rk = (r.nd t).u.rk := by
          rw [← hut, ← huy]
          unfold SS.unit unitR
          rw [if_neg (show ¬ y.pos = 0 by omega)]
          by_cases hz0 : y.pos - 1 = 0
          · simp only [hz0, if_true]
            refine ⟨trivial, ?_, trivial, trivial⟩
            show (rn S.runs y.run).first.k + y.pos - 1 = (rn S.runs y.run).first.k
            omega
          · rw [if_neg (show ¬ ((⟨y.run, y.pos - 1⟩ : Sp).pos = 0) from hz0)]
            refine ⟨rfl, ?_, rfl, rfl⟩
            show (rn S.runs y.run).first.k + y.pos - 1 = (rn S.runs y.run).first.k + (y.pos - 1)
            omega
        have hfl : r.find u.lc u.lk = (t : Int) := by rw [k1.1, k1.2.1]; exact h.find_node htl
        have hL := h.ok.notL f0 htl hfl k1.2.2.1.symm k1.2.2.2.symm
        have : (r.node u).par = (t : Int) := by
          show (if r.isL u then _ else _) = _
          rw [hL]; exact hfl
        rw [this, ← q5]
        unfold spI
        rw [if_neg (by omega), Int.toNat_natCast]
  obtain ⟨spN, hspO, hspN⟩ : ∃ g : Nat → Sp, (∀ x, x < r.l.length → g x = sp x) ∧ ∀ i, g (r.l.length + i) = ⟨y.run, y.pos + (i : Int)⟩ :=
    ⟨fun x => if x < r.l.length then sp x else ⟨y.run, y.pos + ((x - r.l.length : Nat) : Int)⟩, fun x hx => if_pos hx, fun i => by show (if _ then _ else _) = _; rw [if_neg (by omega), Nat.add_sub_cancel_left]⟩
  have hy0 : (⟨y.run, y.pos + ((0 : Nat) : Int)⟩ : Sp) = y := by
    show (⟨y.run, y.pos + 0⟩ : Sp) = y
    rw [Int.add_zero]
  refine ⟨spN, ⟨hI', T.ok, ?_, ?_, ?_, ?_, ?_⟩⟩
  · rcases y4 with ⟨_, q⟩ | ⟨_, _, _, _, q⟩
    · rw [q]
      refine h.runs.add u ?_
      rw [hpar]
      show SpV S.runs (spI sp (r.node u).par)
      unfold spI
      split
      · exact h.zeroV
      · exact (h.spV _ (by omega)).1
    · rw [q]; exact h.runs
  · have hmA : ∀ l : List Nat, (∀ x ∈ l, x < r.l.length) → l.map spN = l.map sp := fun l hl => List.map_congr_left fun x hx => hspO x (hl x hx)
    have hmN : (List.range' r.l.length n).map spN = spotsFrom y n := by
      unfold spotsFrom
      rw [List.range'_eq_map_range, List.map_map]
      exact List.map_congr_left fun i _ => hspN i
    rw [y1, T.order, h.spots, eo, ep, Int.toNat_natCast, List.map_append, List.map_append, List.map_append, hmA A fun x hx => hlt x (List.mem_append_left _ hx), hmA B fun x hx => hlt x (List.mem_append_right _ hx), hmN, List.take_left' (List.length_map _), List.drop_left' (List.length_map _)]
  · intro x hx
    rw [T.len] at hx
    by_cases hxe : x < r.l.length
    · rw [hspO x hxe, y3 _ (h.spV x hxe).1.1, (T.old x hxe).1]
      exact h.unit x hxe
    · obtain ⟨i, rfl⟩ : ∃ i, x = r.l.length + i := ⟨x - r.l.length, by omega⟩
      rw [hspN, T.new i (by omega)]
      exact unit_from _ y u y2 hpos i
  · intro x hx hp
    rw [T.len] at hx
    by_cases hxe : x < r.l.length
    · rw [(T.old x hxe).2] at hp
      rw [hspO x hxe, hparO x hxe]
      exact h.par0 x hxe hp
    · obtain ⟨i, rfl⟩ : ∃ i, x = r.l.length + i := ⟨x - r.l.length, by omega⟩
      cases i with
      | zero =>
        rw [hspN, hy0, hparN]
        rw [Nat.add_zero, T.par0] at hp
        rw [hp]; rfl
      | succ i =>
        have := T.par i (by omega)
        omega
  · intro x p hx hp
    rw [T.len] at hx
    by_cases hxe : x < r.l.length
    · rw [(T.old x hxe).2] at hp
      have := h.ok.inv.up x hxe
      rw [hspO x hxe, hparO x hxe, hspO p (by omega)]
      exact h.par x p hxe hp
    · obtain ⟨i, rfl⟩ : ∃ i, x = r.l.length + i := ⟨x - r.l.length, by omega⟩
      cases i with
      | zero =>
        rw [hspN, hy0, hparN]
        rw [Nat.add_zero, T.par0] at hp
        rw [hp, hspO p (by omega)]
        unfold spI
        rw [if_neg (by omega), Int.toNat_natCast]
      | succ i =>
        have hq := T.par i (by omega)
        have : p = r.l.length + i := by omega
        subst this
        rw [hspN, hspN]
        unfold parS
        rw [if_neg (by show ¬ y.pos + ((i + 1 : Nat) : Int) = 0; omega)]
        simp only [Sp.mk.injEq, true_and]
        omega
/-- A Run in both. -/
theorem Corr.runN (h : Corr S r sp) {u : Un} (hu : u.ok) (n : Int) {N : Nat} (hz : Size S N) (hN : (N : Int) + n ≤ 1000000) : S.may u n = r.mayN u n ∧ ∃ sp', Corr (S.run u n) (r.runN u n) sp' := by
  refine ⟨h.mayN hu n, ?_⟩
  unfold RS.runN
  cases hm : r.mayN u n with
  | false => 
    have : S.run u n = S := by unfold SS.run; rw [h.mayN hu n, hm]; rfl
    rw [this]; exact ⟨sp, h⟩
  | true =>
    have hmay : S.may u n = true := by rw [h.mayN hu]; exact hm
    obtain ⟨_, c, _⟩ := may_iff.1 hmay
    obtain ⟨k, rfl⟩ := Int.eq_ofNat_of_zero_le (show 0 ≤ n by omega)
    rw [Int.toNat_natCast]
    exact h.stepN hu (by omega) hmay hz (by omega)
end
end Go.Proofs.YtdnhoicfolkbnaaGreat
