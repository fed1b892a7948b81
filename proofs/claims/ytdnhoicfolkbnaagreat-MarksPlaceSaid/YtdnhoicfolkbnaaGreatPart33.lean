/- Package seq against the document's tree, mathematics alone: a child of a node stands at its place. -/
import Derived.Test.YtdnhoicfolkbnaaGreatPart32
namespace Go.Proofs.YtdnhoicfolkbnaaGreat
set_option linter.unusedVariables false
set_option linter.unusedSimpArgs false

theorem mem_mid {X Y Z l : List Nat} (e : l = X ++ Y ++ Z) {q : Nat} (hq : q < l.length) (h1 : X.length ≤ q) (h2 : q < X.length + Y.length) : l[q] ∈ Y := by
  subst e
  rw [List.getElem_append_left (by rw [List.length_append]; omega), List.getElem_append_right h1]
  exact List.getElem_mem _
section
variable {S : SS} {r : RS} {sp : Nat → Sp}
/-- Which children are ahead of the new one. -/
theorem Corr.aheadTD (h : Corr S r sp) {u : Un} (hu : u.ok) (hm : MayR r u) {K T D : List Nat} (hK : ∀ c ∈ K, c < r.l.length) (hs : K.Pairwise fun a b => r.farther a b = true) (hT : K.takeWhile (fun x => (r.with1 u).farther x r.l.length) = T) (hDr : K.dropWhile (fun x => (r.with1 u).farther x r.l.length) = D) : (∀ c ∈ T, S.isAhead u (r.nd c).u = false) ∧ ∀ c ∈ D, S.isAhead u (r.nd c).u = true := by
  have hur : RgtOk r u := hm.right
  have emore : K = T ++ D := by rw [← hT, ← hDr]; exact List.takeWhile_append_dropWhile.symm
  have ah : ∀ c, c < r.l.length → S.isAhead u (r.nd c).u = r.fart u (r.nd c).u := fun c hc => h.ahead hu (h.nd_ok c hc) hur (h.ok.rgt c hc)
  have pe : ∀ x, x < r.l.length → (r.with1 u).farther x r.l.length = r.fart (r.nd x).u u := fun x hx' => by
    rw [RS.farther_eq, with1_nd, if_neg (by omega), with1_nd, if_pos rfl]
    exact fart_with1 r u (h.ok.rgt x hx') hur
  refine ⟨fun c hc => ?_, fun c hc => ?_⟩
  · have hcl := hK c (by rw [emore]; exact List.mem_append_left _ hc)
    rw [ah c hcl]
    have e1 : r.fart (r.nd c).u u = true := by
      rw [← pe c hcl]
      exact List.all_eq_true.1 (List.all_takeWhile (p := fun x => (r.with1 u).farther x r.l.length) (l := K)) c (by rw [hT]; exact hc)
    cases e2 : r.fart u (r.nd c).u with
    | false => rfl
    | true =>
      rw [RS.fart_iff] at e1 e2
      omega
  · have hcl := hK c (by rw [emore]; exact List.mem_append_right _ hc)
    rw [ah c hcl]
    rw [emore] at hs
    have hs1 := (List.pairwise_append.1 hs).2.1
    have newid : ∀ y, y < r.l.length → ¬ ((r.nd y).u.c = u.c ∧ (r.nd y).u.k = u.k) := fun y hy e => RS.find_ex hy e.1 e.2 hm.new
    cases hd : D with
    | nil => rw [hd] at hc; exact (List.not_mem_nil hc).elim
    | cons z D' =>
      have hz : (r.with1 u).farther z r.l.length = false := by
        have := List.head?_dropWhile_not (fun x => (r.with1 u).farther x r.l.length) K
        rw [hDr, hd] at this
        simpa using this
      have hzl := hK z (by rw [emore, hd]; simp)
      have hz1 : r.fart u (r.nd z).u = true := RS.fart_total r (by rw [← pe z hzl]; exact hz) (newid z hzl)
      rw [hd] at hs1 hc
      rcases List.mem_cons.1 hc with rfl | hc
      · exact hz1
      · have := (List.pairwise_cons.1 hs1).1 c hc
        rw [RS.farther_eq] at this
        exact RS.fart_trans r hz1 this
/-- A right child of a node. -/
theorem Corr.placeM (h : Corr S r sp) {u : Un} (hu : u.ok) (hm : MayR r u) (hL : r.isL u = false) (hs : (r.laid u).more = r.more) {p : Nat} (hf : r.find u.lc u.lk = (p : Int)) (hpl : p < r.l.length) (hk : ∀ x, x < r.l.length → x ≠ p → SameK r (r.laid u) x) (hl : ((r.laid u).nd p).lefts = (r.nd p).lefts) (hmo : ((r.laid u).nd p).more = (r.with1 u).amongL (r.nd p).more r.l.length) : ∃ A B, r.order = A ++ B ∧ (r.laid u).order = A ++ r.l.length :: B ∧ S.placeFor u = (A.length : Int) := by
  have L := laid1 r u
  have hI := h.ok.inv
  have hD := h.inv.down
  have hI' := (hI.laidI u).1
  have hme : (r.laid u).nd r.l.length = r.node u := L.me
  have hnd := hI.nodup
  have eoW : r.walk (r.l.length + 1) r.more = r.order := by rw [RS.walk_fuel r _ _ hI.deep]; exact hI.ord.symm
  have esW : (r.laid u).order = (r.laid u).walk (r.l.length + 1) r.more := by rw [hI'.ord, L.len, hs]
  obtain ⟨g, A, B, g1, d1, d2, ea, eb⟩ := RS.ctx r (r.laid u) p r.l.length r.more hI.deep (by rw [eoW]; exact List.count_pos_iff.1 (by rw [hI.one p hpl]; omega)) (by rw [eoW]; exact hI.one p hpl) (fun x hx hxp => hk x (hI.lt x (by rw [← eoW]; exact hx)) hxp)
  rw [eoW] at ea
  rw [← esW, hl, hmo] at eb
  obtain ⟨t1, t2⟩ := take_len_while (p := fun x => (r.with1 u).farther x r.l.length) (r.nd p).more
  obtain ⟨T, hT⟩ : ∃ T, (r.nd p).more.takeWhile (fun x => (r.with1 u).farther x r.l.length) = T := ⟨_, rfl⟩
  obtain ⟨D, hDr⟩ : ∃ D, (r.nd p).more.dropWhile (fun x => (r.with1 u).farther x r.l.length) = D := ⟨_, rfl⟩
  have emore : (r.nd p).more = T ++ D := by rw [← hT, ← hDr]; exact List.takeWhile_append_dropWhile.symm
  have emore' : (r.with1 u).amongL (r.nd p).more r.l.length = T ++ [r.l.length] ++ D := by
    unfold RS.amongL withinL
    rw [t1, t2, hT, hDr]; simp
  obtain ⟨aT, aD⟩ := h.aheadTD hu hm (hI.kids p hpl).2 (h.ok.sortM p hpl) hT hDr
  have hdT : r.Deep g T := RS.deep_sub r (fun x hx => by rw [emore]; exact List.mem_append_left _ hx) _ d2
  have hdD : r.Deep g D := RS.deep_sub r (fun x hx => by rw [emore]; exact List.mem_append_right _ hx) _ d2
  have eW : r.walk g (r.nd p).more = r.walk g T ++ r.walk g D := by rw [emore, RS.walk_append]
  obtain ⟨X, hX⟩ : ∃ X, r.walk g (r.nd p).lefts = X := ⟨_, rfl⟩
  obtain ⟨WT, hWT⟩ : ∃ X, r.walk g T = X := ⟨_, rfl⟩
  obtain ⟨WD, hWD⟩ : ∃ X, r.walk g D = X := ⟨_, rfl⟩
  have esub : r.sub g p = X ++ p :: (WT ++ WD) := by unfold RS.sub; rw [hX, eW, hWT, hWD]
  rw [hX, eW, hWT, hWD] at ea
  -- nothing stands twice
  have hnd2 := hnd
  rw [ea] at hnd2
  have np : p ∉ X ∧ p ∉ WT ∧ p ∉ WD ∧ ∀ z ∈ B, z ∉ r.sub g p := by
    rw [esub]
    simp only [List.nodup_append, List.nodup_cons, List.mem_append, List.mem_cons] at hnd2
    grind
  have sk : ∀ x, x ∈ r.order → x ≠ p → SameK r (r.laid u) x := fun x hx hxp => hk x (hI.lt x hx) hxp
  have sX : (r.laid u).walk g (r.nd p).lefts = X := by
    rw [← hX]
    refine RS.walk_same _ _ _ _ fun x hx => ?_
    rw [hX] at hx
    exact sk x (by rw [ea]; simp [hx]) fun q => np.1 (by rw [← q]; exact hx)
  have sT : (r.laid u).walk g T = WT := by
    rw [← hWT]
    refine RS.walk_same _ _ _ _ fun x hx => ?_
    rw [hWT] at hx
    exact sk x (by rw [ea]; simp [hx]) fun q => np.2.1 (by rw [← q]; exact hx)
  have sD : (r.laid u).walk g D = WD := by
    rw [← hWD]
    refine RS.walk_same _ _ _ _ fun x hx => ?_
    rw [hWD] at hx
    exact sk x (by rw [ea]; simp [hx]) fun q => np.2.2.1 (by rw [← q]; exact hx)
  have es : (r.laid u).order = (A ++ X ++ p :: WT) ++ r.l.length :: (WD ++ B) := by
    rw [eb, emore', RS.walk_append, RS.walk_append, sX, sT, sD, RS.walk_leaf _ (by rw [hme]; rfl) (by rw [hme]; rfl) g1]
    simp
  have eo : r.order = (A ++ X ++ p :: WT) ++ (WD ++ B) := by rw [ea]; simp
  refine ⟨_, _, eo, es, ?_⟩
  have hpp : r.place (p : Int) = ((A ++ X).length : Int) := hI.place_at (Y := WT ++ (WD ++ B)) (by rw [eo]; simp)
  have hlo : r.findP u.lc u.lk + 1 = (((A ++ X).length + 1 : Nat) : Int) := by
    unfold RS.findP
    rw [if_neg (by omega), hf, hpp]; omega
  have hp := h.parentOf hD hm
  have hp1 : (S.parentOf u).1 = sp p := by
    rw [hp]
    show spI sp (if r.isL u then r.find u.rc u.rk else r.find u.lc u.lk) = _
    rw [hL, if_neg (by simp), hf]
    unfold spI
    rw [if_neg (by omega), Int.toNat_natCast]
  have hp2 : (S.parentOf u).2 = false := by rw [hp]; exact hL
  have kids : ∀ c ∈ (r.nd p).more, c < r.l.length ∧ parS S.runs (sp c) = sp p := fun c hc => ⟨(hI.kids p hpl).2 c hc, h.par c p ((hI.kids p hpl).2 c hc) (h.ok.kidM p hpl c hc)⟩
  have hpV := (h.spV p hpl).1
  have len0 : r.order.length = (A ++ X).length + 1 + WT.length + WD.length + B.length := by rw [eo]; simp only [List.length_append, List.length_cons]; omega
  have lenA : (A ++ X ++ p :: WT).length = (A ++ X).length + 1 + WT.length := by simp only [List.length_append, List.length_cons]; omega
  -- how far it may come
  obtain ⟨hi, hhi, hi1, hi2⟩ : ∃ hi : Nat, S.rightOf u = (hi : Int) ∧ (A ++ X).length + 1 + WT.length + WD.length ≤ hi ∧ hi ≤ r.order.length := by
    by_cases e : u.rc = 0 ∧ u.rk = 0
    · refine ⟨r.order.length, ?_, by omega, Nat.le_refl _⟩
      unfold SS.rightOf
      rw [if_pos e, h.total, hI.len]
    · have hne : r.find u.rc u.rk ≠ -1 := by
        rcases hm.right with q | q
        · exact absurd q e
        · exact q
      have hb := RS.find_lt (r := r) u.rc u.rk
      obtain ⟨y, hy⟩ := Int.eq_ofNat_of_zero_le (show 0 ≤ r.find u.rc u.rk by omega)
      have hyl : y < r.l.length := (RS.find_id hy).1
      obtain ⟨j, hj, j1, j2⟩ := hI.place_ok y hyl
      have hord := hm.ord (by omega) hne
      rw [hf, hy, hpp, j2] at hord
      refine ⟨j, ?_, ?_, by omega⟩
      · unfold SS.rightOf
        rw [if_neg e, h.find hu.rc hu.rk.1]
        unfold RS.findP
        rw [if_neg (by omega), hy, j2]
      · refine Decidable.byContradiction fun hlt => ?_
        have hyw : y ∈ WT ++ WD := by
          rw [← j1]
          exact mem_mid (X := A ++ X ++ [p]) (Z := B) (by rw [eo]; simp) hj (by simp only [List.length_append, List.length_cons, List.length_nil] at hord ⊢; omega) (by simp only [List.length_append, List.length_cons, List.length_nil] at hlt ⊢; omega)
        rw [← hWT, ← hWD, ← eW] at hyw
        obtain ⟨c, hc, k, e1⟩ := h.below g _ d2 y hyw
        have hup : r.ups (p : Int) r.l.length (r.nd y).par = false := by
          unfold RS.isL at hL
          rw [hf, hy, Int.toNat_natCast, decide_eq_true (by omega : 0 ≤ (y : Int)), Bool.true_and, Bool.or_eq_false_iff] at hL
          exact hL.2
        exact h.noUps p hpl _ y hyl hyl hup k (by rw [e1]; exact (h.spV c (kids c hc).1).2) (by rw [e1]; exact (kids c hc).2)
  have hbt := h.between hu hm
  rw [hlo, hhi] at hbt
  refine SS.turn hbt (by omega) (by omega) (fun q hq1 hq => ?_) (fun q hq hq2 => ?_)
  · have hq' : q < r.order.length := by omega
    rw [hp1]
    refine h.see hD hpV hdT (fun c hc => kids c (by rw [emore]; exact List.mem_append_left _ hc)) aT hq' ?_
    rw [hWT]
    exact mem_mid (X := A ++ X ++ [p]) (Z := WD ++ B) (by rw [eo]; simp) hq' (by simp only [List.length_append, List.length_cons, List.length_nil] at hq1 ⊢; omega) (by simp only [List.length_append, List.length_cons, List.length_nil] at hq ⊢; omega)
  · have hq' : q < r.order.length := by omega
    rw [hp1, hp2]
    rcases Nat.lt_or_ge q ((A ++ X).length + 1 + WT.length + WD.length) with c1 | c1
    · refine h.see hD hpV hdD (fun c hc => kids c (by rw [emore]; exact List.mem_append_right _ hc)) aD hq' ?_
      rw [hWD]
      exact mem_mid (X := A ++ X ++ p :: WT) (Z := B) (by rw [eo]; simp) hq' hq (by omega)
    · have hB : r.order[q] ∈ B := mem_mid (X := A ++ X ++ p :: WT ++ WD) (Z := []) (by rw [eo]; simp) hq' (by rw [List.length_append, lenA]; omega) (by rw [List.length_append, lenA]; omega)
      exact h.seeNo hD hpl d1 d2 hq' (np.2.2.2 _ hB)
end
end Go.Proofs.YtdnhoicfolkbnaaGreat

/- Package seq against the document's tree, mathematics alone: a left child of a node stands at its place. -/
namespace Go.Proofs.YtdnhoicfolkbnaaGreat
set_option linter.unusedVariables false
set_option linter.unusedSimpArgs false

section
variable {S : SS} {r : RS} {sp : Nat → Sp}
/-- What is above is not below. -/
theorem Corr.noRing (h : Corr S r sp) {x t : Nat} (hx : x < r.l.length) (ht : t < r.l.length) {k j : Nat} (h1 : parS S.runs (upN S.runs k (sp x)) = sp t) (h0 : (upN S.runs k (sp x)).run ≠ 0) (h2 : upN S.runs j (sp t) = sp x) : False := by
  have vx := (h.spV x hx).1
  have vt := (h.spV t ht).1
  have a := h.runs.lessN k vx
  have b := h.runs.less (h.runs.upV k vx).1 h0
  have c := h.runs.lessN j vt
  rw [h1] at b
  rw [h2] at c
  omega
/-- Which left children are ahead of the new one. -/
theorem Corr.leftTD (h : Corr S r sp) {u : Un} (hm : MayR r u) {p : Nat} (hpl : p < r.l.length) (hf : r.find u.rc u.rk = (p : Int)) {T D : List Nat} (hT : (r.nd p).lefts.takeWhile (fun x => lessI ((r.with1 u).nd x).u.c ((r.with1 u).nd x).u.k u.c u.k) = T) (hDr : (r.nd p).lefts.dropWhile (fun x => lessI ((r.with1 u).nd x).u.c ((r.with1 u).nd x).u.k u.c u.k) = D) : (∀ c ∈ T, S.isAhead u (r.nd c).u = false) ∧ ∀ c ∈ D, S.isAhead u (r.nd c).u = true := by
  obtain ⟨_, f1, f2⟩ := RS.find_id hf
  have hK := (h.ok.inv.kids p hpl).1
  have emore : (r.nd p).lefts = T ++ D := by rw [← hT, ← hDr]; exact List.takeWhile_append_dropWhile.symm
  have hs := h.ok.sortL p hpl
  have ah : ∀ c ∈ (r.nd p).lefts, S.isAhead u (r.nd c).u = lessI u.c u.k (r.nd c).u.c (r.nd c).u.k := fun c hc => by
    obtain ⟨_, e1, e2⟩ := h.ok.kidL p hpl c hc
    unfold SS.isAhead
    rw [if_pos ⟨by omega, by omega⟩]
  have pe : ∀ x ∈ (r.nd p).lefts, lessI ((r.with1 u).nd x).u.c ((r.with1 u).nd x).u.k u.c u.k = lessI (r.nd x).u.c (r.nd x).u.k u.c u.k := fun x hx => by
    rw [with1_nd, if_neg (by have := hK x hx; omega)]
  refine ⟨fun c hc => ?_, fun c hc => ?_⟩
  · have hcm : c ∈ (r.nd p).lefts := by rw [emore]; exact List.mem_append_left _ hc
    rw [ah c hcm]
    have e1 : lessI (r.nd c).u.c (r.nd c).u.k u.c u.k = true := by
      rw [← pe c hcm]
      exact List.all_eq_true.1 (List.all_takeWhile (p := fun x => lessI ((r.with1 u).nd x).u.c ((r.with1 u).nd x).u.k u.c u.k) (l := (r.nd p).lefts)) c (by rw [hT]; exact hc)
    cases e2 : lessI u.c u.k (r.nd c).u.c (r.nd c).u.k with
    | false => rfl
    | true =>
      rw [lessI_iff] at e1 e2
      omega
  · have hcm : c ∈ (r.nd p).lefts := by rw [emore]; exact List.mem_append_right _ hc
    rw [ah c hcm]
    rw [emore] at hs
    have hs1 := (List.pairwise_append.1 hs).2.1
    have newid : ∀ y, y < r.l.length → ¬ ((r.nd y).u.c = u.c ∧ (r.nd y).u.k = u.k) := fun y hy e => RS.find_ex hy e.1 e.2 hm.new
    cases hd : D with
    | nil => rw [hd] at hc; exact (List.not_mem_nil hc).elim
    | cons z D' =>
      have hzm : z ∈ (r.nd p).lefts := by rw [emore, hd]; simp
      have hz : lessI (r.nd z).u.c (r.nd z).u.k u.c u.k = false := by
        have := List.head?_dropWhile_not (fun x => lessI ((r.with1 u).nd x).u.c ((r.with1 u).nd x).u.k u.c u.k) (r.nd p).lefts
        rw [hDr, hd] at this
        rw [← pe z hzm]
        simpa using this
      have hzl := hK z hzm
      have hz1 : lessI u.c u.k (r.nd z).u.c (r.nd z).u.k = true := by
        have hn := newid z hzl
        have hz' : ¬ (lessI (r.nd z).u.c (r.nd z).u.k u.c u.k = true) := by rw [hz]; simp
        rw [lessI_iff] at hz' ⊢
        omega
      rw [hd] at hs1 hc
      rcases List.mem_cons.1 hc with rfl | hc
      · exact hz1
      · have := (List.pairwise_cons.1 hs1).1 c hc
        rw [lessI_iff] at this hz1 ⊢
        omega
/-- A left child of a node. -/
theorem Corr.placeL (h : Corr S r sp) {u : Un} (hu : u.ok) (hm : MayR r u) (hL : r.isL u = true) (hs : (r.laid u).more = r.more) {p : Nat} (hf : r.find u.rc u.rk = (p : Int)) (hpl : p < r.l.length) (hk : ∀ x, x < r.l.length → x ≠ p → SameK r (r.laid u) x) (hl : ((r.laid u).nd p).more = (r.nd p).more) (hmo : ((r.laid u).nd p).lefts = withinL (r.nd p).lefts ((r.with1 u).leftsL (r.nd p).lefts u.c u.k) r.l.length) : ∃ A B, r.order = A ++ B ∧ (r.laid u).order = A ++ r.l.length :: B ∧ S.placeFor u = (A.length : Int) := by
  have L := laid1 r u
  have hI := h.ok.inv
  have hD := h.inv.down
  have hI' := (hI.laidI u).1
  have hme : (r.laid u).nd r.l.length = r.node u := L.me
  have hnd := hI.nodup
  have eoW : r.walk (r.l.length + 1) r.more = r.order := by rw [RS.walk_fuel r _ _ hI.deep]; exact hI.ord.symm
  have esW : (r.laid u).order = (r.laid u).walk (r.l.length + 1) r.more := by rw [hI'.ord, L.len, hs]
  obtain ⟨g, A, B, g1, d1, d2, ea, eb⟩ := RS.ctx r (r.laid u) p r.l.length r.more hI.deep (by rw [eoW]; exact List.count_pos_iff.1 (by rw [hI.one p hpl]; omega)) (by rw [eoW]; exact hI.one p hpl) (fun x hx hxp => hk x (hI.lt x (by rw [← eoW]; exact hx)) hxp)
  rw [eoW] at ea
  rw [← esW, hl, hmo] at eb
  obtain ⟨t1, t2⟩ := take_len_while (p := fun x => lessI ((r.with1 u).nd x).u.c ((r.with1 u).nd x).u.k u.c u.k) (r.nd p).lefts
  obtain ⟨T, hT⟩ : ∃ T, (r.nd p).lefts.takeWhile (fun x => lessI ((r.with1 u).nd x).u.c ((r.with1 u).nd x).u.k u.c u.k) = T := ⟨_, rfl⟩
  obtain ⟨D, hDr⟩ : ∃ D, (r.nd p).lefts.dropWhile (fun x => lessI ((r.with1 u).nd x).u.c ((r.with1 u).nd x).u.k u.c u.k) = D := ⟨_, rfl⟩
  have emore : (r.nd p).lefts = T ++ D := by rw [← hT, ← hDr]; exact List.takeWhile_append_dropWhile.symm
  have emore' : withinL (r.nd p).lefts ((r.with1 u).leftsL (r.nd p).lefts u.c u.k) r.l.length = T ++ [r.l.length] ++ D := by
    unfold RS.leftsL withinL
    rw [t1, t2, hT, hDr]; simp
  obtain ⟨aT, aD⟩ := h.leftTD hm hpl hf hT hDr
  have hdT : r.Deep g T := RS.deep_sub r (fun x hx => by rw [emore]; exact List.mem_append_left _ hx) _ d1
  have hdD : r.Deep g D := RS.deep_sub r (fun x hx => by rw [emore]; exact List.mem_append_right _ hx) _ d1
  have eW : r.walk g (r.nd p).lefts = r.walk g T ++ r.walk g D := by rw [emore, RS.walk_append]
  obtain ⟨X, hX⟩ : ∃ X, r.walk g (r.nd p).more = X := ⟨_, rfl⟩
  obtain ⟨WT, hWT⟩ : ∃ X, r.walk g T = X := ⟨_, rfl⟩
  obtain ⟨WD, hWD⟩ : ∃ X, r.walk g D = X := ⟨_, rfl⟩
  have esub : r.sub g p = (WT ++ WD) ++ p :: X := by unfold RS.sub; rw [hX, eW, hWT, hWD]
  rw [hX, eW, hWT, hWD] at ea
  have hnd2 := hnd
  rw [ea] at hnd2
  have np : p ∉ X ∧ p ∉ WT ∧ p ∉ WD ∧ ∀ z ∈ A, z ∉ r.sub g p := by
    rw [esub]
    simp only [List.nodup_append, List.nodup_cons, List.mem_append, List.mem_cons] at hnd2
    grind
  have sk : ∀ x, x ∈ r.order → x ≠ p → SameK r (r.laid u) x := fun x hx hxp => hk x (hI.lt x hx) hxp
  have sX : (r.laid u).walk g (r.nd p).more = X := by
    rw [← hX]
    refine RS.walk_same _ _ _ _ fun x hx => ?_
    rw [hX] at hx
    exact sk x (by rw [ea]; simp [hx]) fun q => np.1 (by rw [← q]; exact hx)
  have sT : (r.laid u).walk g T = WT := by
    rw [← hWT]
    refine RS.walk_same _ _ _ _ fun x hx => ?_
    rw [hWT] at hx
    exact sk x (by rw [ea]; simp [hx]) fun q => np.2.1 (by rw [← q]; exact hx)
  have sD : (r.laid u).walk g D = WD := by
    rw [← hWD]
    refine RS.walk_same _ _ _ _ fun x hx => ?_
    rw [hWD] at hx
    exact sk x (by rw [ea]; simp [hx]) fun q => np.2.2.1 (by rw [← q]; exact hx)
  have es : (r.laid u).order = (A ++ WT) ++ r.l.length :: (WD ++ p :: X ++ B) := by
    rw [eb, emore', RS.walk_append, RS.walk_append, sX, sT, sD, RS.walk_leaf _ (by rw [hme]; rfl) (by rw [hme]; rfl) g1]
    simp
  have eo : r.order = (A ++ WT) ++ (WD ++ p :: X ++ B) := by rw [ea]; simp
  refine ⟨_, _, eo, es, ?_⟩
  have hpp : r.place (p : Int) = ((A ++ WT ++ WD).length : Int) := hI.place_at (Y := X ++ B) (by rw [eo]; simp)
  have len1 : (A ++ WT ++ WD).length = A.length + WT.length + WD.length := by simp only [List.length_append]
  have len0 : r.order.length = A.length + WT.length + WD.length + 1 + X.length + B.length := by rw [eo]; simp only [List.length_append, List.length_cons]; omega
  have e0 : ¬ (u.rc = 0 ∧ u.rk = 0) := fun q => by
    rw [q.1, q.2, h.find0] at hf; omega
  have hhi : S.rightOf u = (((A ++ WT ++ WD).length : Nat) : Int) := by
    unfold SS.rightOf
    rw [if_neg e0, h.find hu.rc hu.rk.1]
    unfold RS.findP
    rw [if_neg (by omega), hf, hpp]
  have hp := h.parentOf hD hm
  have hp1 : (S.parentOf u).1 = sp p := by
    rw [hp]
    show spI sp (if r.isL u then r.find u.rc u.rk else r.find u.lc u.lk) = _
    rw [hL, if_pos rfl, hf]
    unfold spI
    rw [if_neg (by omega), Int.toNat_natCast]
  have hp2 : (S.parentOf u).2 = true := by rw [hp]; exact hL
  have kids : ∀ c ∈ (r.nd p).lefts, c < r.l.length ∧ parS S.runs (sp c) = sp p := fun c hc => ⟨(hI.kids p hpl).1 c hc, h.par c p ((hI.kids p hpl).1 c hc) (h.ok.kidL p hpl c hc).1⟩
  have hpV := (h.spV p hpl).1
  -- from where on
  obtain ⟨lo, hlo, lo1⟩ : ∃ lo : Nat, r.findP u.lc u.lk + 1 = (lo : Int) ∧ lo ≤ A.length := by
    rcases h.left_lo (c := u.lc) (k := u.lk) with ⟨_, q⟩ | ⟨t, ht, t1, t2⟩
    · exact ⟨0, q, Nat.zero_le _⟩
    · obtain ⟨j, hj, j1, j2⟩ := hI.place_ok t ht
      have hord := hm.ord (by omega) (by omega)
      rw [t1, hf, hpp, j2] at hord
      refine ⟨j + 1, by rw [t2, j2]; rfl, ?_⟩
      refine Decidable.byContradiction fun hlt => ?_
      have htw : t ∈ WT ++ WD := by
        rw [← j1]
        exact mem_mid (X := A) (Z := p :: X ++ B) (by rw [eo]; simp) hj (by omega) (by rw [List.length_append]; omega)
      rw [← hWT, ← hWD, ← eW] at htw
      obtain ⟨c, hc, k, e1⟩ := h.below g _ d1 t htw
      have hup : r.ups (t : Int) r.l.length (r.nd p).par = true := by
        have el : ¬ (u.lc = 0 ∧ u.lk = 0) := fun q => by
          rw [q.1, q.2, h.find0] at t1; omega
        unfold RS.isL at hL
        rw [t1, hf, Int.toNat_natCast, decide_eq_false el, Bool.false_or, Bool.and_eq_true] at hL
        exact hL.2
      obtain ⟨k', e2, e3⟩ := h.ups t _ p hpl hup
      exact h.noRing hpl ht e2 e3 (j := k + 1) (by rw [upN_succ, e1]; exact (kids c hc).2)
  have hbt := h.between hu hm
  rw [hlo, hhi] at hbt
  refine SS.turn hbt (by rw [List.length_append]; omega) (by rw [List.length_append, len1]; omega) (fun q hq1 hq => ?_) (fun q hq hq2 => ?_)
  · rw [List.length_append] at hq
    have hq' : q < r.order.length := by omega
    rw [hp1, hp2]
    rcases Nat.lt_or_ge q A.length with c1 | c1
    · have hA : r.order[q] ∈ A := mem_mid (X := []) (Z := WT ++ (WD ++ p :: X ++ B)) (by rw [eo]; simp) hq' (Nat.zero_le _) (by simpa using c1)
      exact h.seeNo hD hpl d1 d2 hq' (np.2.2.2 _ hA)
    · refine h.see hD hpV hdT (fun c hc => kids c (by rw [emore]; exact List.mem_append_left _ hc)) aT hq' ?_
      rw [hWT]
      exact mem_mid (X := A) (Z := WD ++ p :: X ++ B) (by rw [eo]) hq' c1 hq
  · rw [List.length_append] at hq
    rw [len1] at hq2
    have hq' : q < r.order.length := by omega
    rw [hp1]
    refine h.see hD hpV hdD (fun c hc => kids c (by rw [emore]; exact List.mem_append_right _ hc)) aD hq' ?_
    rw [hWD]
    exact mem_mid (X := A ++ WT) (Z := p :: X ++ B) (by rw [eo]; simp) hq' (by rw [List.length_append]; omega) (by rw [List.length_append]; omega)
/-- The place that the search finds is the document's. -/
theorem Corr.place (h : Corr S r sp) {u : Un} (hu : u.ok) (hm : MayR r u) : ∃ A B, r.order = A ++ B ∧ (r.laid u).order = A ++ r.l.length :: B ∧ S.placeFor u = (A.length : Int) := by
  rcases (laid1 r u).put with ⟨e1, _, e3, p, e4, e5, e6, e7, e8⟩ | ⟨e1, _, ⟨e3, p, e4, e5, e6, e7, e8⟩ | ⟨e4, e6, e8⟩⟩
  · exact h.placeL hu hm e1 e3 e4 e5 e6 e7 e8
  · exact h.placeM hu hm e1 e3 e4 e5 e6 e7 e8
  · exact h.place0 hu hm e1 e4 e6 e8
end
end Go.Proofs.YtdnhoicfolkbnaaGreat
