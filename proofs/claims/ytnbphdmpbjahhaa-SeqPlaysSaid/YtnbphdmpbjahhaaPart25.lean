/- Package seq against the document's tree, mathematics alone: what the search for the place sees at each spot. -/
import Derived.Test.YtnbphdmpbjahhaaPart24
namespace Go.Proofs.Ytnbphdmpbjahhaa
set_option linter.unusedVariables false
set_option linter.unusedSimpArgs false

/-- The search by halves finds where the answers turn. -/
theorem bis_at {p : Nat → Bool} {m : Nat} : ∀ (f i j : Nat), j - i ≤ f → i ≤ m → m ≤ j → (∀ q, i ≤ q → q < m → p q = false) → (∀ q, m ≤ q → q < j → p q = true) → bis p f i j = m
  | 0, i, j, hf, h1, h2, _, _ => by show i = m; omega
  | f + 1, i, j, hf, h1, h2, ha, hb => by
    rw [bis_succ]
    by_cases hij : i < j
    · rw [if_pos hij]
      rcases Nat.lt_or_ge ((i + j) / 2) m with hq | hq
      · rw [ha _ (by omega) hq, if_neg (by simp)]
        exact bis_at f _ j (by omega) (by omega) h2 (fun q a b => ha q (by omega) b) hb
      · rw [hb _ hq (by omega), if_pos rfl]
        exact bis_at f i _ (by omega) h1 hq ha (fun q a b => hb q a (by omega))
    · rw [if_neg hij]; omega
section
variable {S : SS} {r : RS} {sp : Nat → Sp}
/-- What stands in a child's walk is below it. -/
theorem Corr.below (h : Corr S r sp) : ∀ (f : Nat) (l : List Nat), r.Deep f l → ∀ x ∈ r.walk f l, ∃ c ∈ l, ∃ k, upN S.runs k (sp x) = sp c
  | 0, l, hd, x, hx => by simp [RS.walk] at hx
  | f + 1, [], hd, x, hx => by simp [RS.walk] at hx
  | f + 1, c :: l, hd, x, hx => by
    obtain ⟨h0, h1, h2⟩ := hd c (by simp)
    have hcl : ∀ y, y ∈ (r.nd c).lefts ∨ y ∈ (r.nd c).more → parS S.runs (sp y) = sp c := fun y hy => by
      rcases hy with hy | hy
      · exact h.par y c ((h.ok.inv.kids c h0).1 y hy) (h.ok.kidL c h0 y hy).1
      · exact h.par y c ((h.ok.inv.kids c h0).2 y hy) (h.ok.kidM c h0 y hy)
    rw [RS.walk_cons] at hx
    simp only [List.mem_append, List.mem_cons] at hx
    rcases hx with (hx | hx | hx) | hx
    · obtain ⟨y, hy, k, e⟩ := h.below f _ h1 x hx
      exact ⟨c, by simp, k + 1, by rw [upN_succ, e]; exact hcl y (.inl hy)⟩
    · exact ⟨c, by simp, 0, by rw [hx]; rfl⟩
    · obtain ⟨y, hy, k, e⟩ := h.below f _ h2 x hx
      exact ⟨c, by simp, k + 1, by rw [upN_succ, e]; exact hcl y (.inr hy)⟩
    · obtain ⟨y, hy, k, e⟩ := h.below (f + 1) l (fun q hq => hd q (List.mem_cons_of_mem _ hq)) x hx
      exact ⟨y, List.mem_cons_of_mem _ hy, k, e⟩
  termination_by f l => (f, l.length)
/-- What is below a node is in each set that holds it and its nodes' children. -/
theorem Corr.closed (h : Corr S r sp) (Q : Nat → Prop) (hQ : ∀ z, Q z → ∀ y, y ∈ (r.nd z).lefts ∨ y ∈ (r.nd z).more → Q y) {c : Nat} (hc : c < r.l.length) (hq : Q c) : ∀ (k x : Nat), x < r.l.length → upN S.runs k (sp x) = sp c → Q x
  | 0, x, hx, e => by rw [h.inj hx hc e]; exact hq
  | k + 1, x, hx, e => by
    have e' : upN S.runs k (parS S.runs (sp x)) = sp c := e
    rcases h.ok.conv x hx with ⟨e1, e2⟩ | ⟨z, hz, e1, e2⟩
    · rw [h.par0 x hx e1, up_zero h.runs] at e'
      exact absurd (by rw [← e']) (h.spV c hc).2
    · rw [h.par x z hx e1] at e'
      exact hQ z (h.closed Q hQ hc hq k z hz e') x e2
/-- A node's own walk: what is below it, and itself. -/
def RS.sub (r : RS) (g p : Nat) : List Nat := r.walk g (r.nd p).lefts ++ p :: r.walk g (r.nd p).more
theorem Corr.notBelow (h : Corr S r sp) {g p : Nat} (hp : p < r.l.length) (h1 : r.Deep g (r.nd p).lefts) (h2 : r.Deep g (r.nd p).more) {x : Nat} (hx : x < r.l.length) (hn : x ∉ r.sub g p) : NoC S.runs (sp p) (sp x) := fun k _ e => by
  refine hn (h.closed (fun z => z ∈ r.sub g p) (fun z hz y hy => ?_) hp (by unfold RS.sub; simp) (k + 1) x hx (by rw [upN_succ]; exact e))
  unfold RS.sub at hz ⊢
  simp only [List.mem_append, List.mem_cons] at hz ⊢
  rcases hz with hz | hz | hz
  · exact .inl (RS.mem_kids r g _ h1 z hz y hy)
  · subst hz
    rcases hy with hy | hy
    · exact .inl (RS.mem_root r g _ h1 y hy)
    · exact .inr (.inr (RS.mem_root r g _ h2 y hy))
  · exact .inr (.inr (RS.mem_kids r g _ h2 z hz y hy))
/-- What the search sees at a place. -/
theorem Corr.spotAt (h : Corr S r sp) {q : Nat} (hq : q < r.order.length) : S.spotAt (q : Int) = sp r.order[q] := by
  have hl := h.ok.inv.len
  have := h.inv.spotAt_get (q : Int) (by omega) (by rw [h.total]; omega)
  rw [Int.toNat_natCast, h.spots, List.getElem?_map, List.getElem?_eq_getElem hq] at this
  exact (Option.some.inj this).symm
theorem Corr.seeNo (h : Corr S r sp) (hD : Down S.runs) {u : Un} {left : Bool} {g p : Nat} (hp : p < r.l.length) (h1 : r.Deep g (r.nd p).lefts) (h2 : r.Deep g (r.nd p).more) {q : Nat} (hq : q < r.order.length) (hn : r.order[q] ∉ r.sub g p) : S.placeP u (sp p) left (q : Int) = !left := by
  have hx := h.ok.inv.lt _ (List.getElem_mem hq)
  unfold SS.placeP
  rw [h.spotAt hq, childR_no h.runs hD (h.spV p hp).1 (h.spV _ hx).1 (h.notBelow hp h1 h2 hx hn), if_neg (by simp)]
theorem Corr.see (h : Corr S r sp) (hD : Down S.runs) {u : Un} {left : Bool} {P : Sp} (hP : SpV S.runs P) {f : Nat} {l : List Nat} (hd : r.Deep f l) (hl : ∀ c ∈ l, c < r.l.length ∧ parS S.runs (sp c) = P) {b : Bool} (hb : ∀ c ∈ l, S.isAhead u (r.nd c).u = b) {q : Nat} (hq : q < r.order.length) (hw : r.order[q] ∈ r.walk f l) : S.placeP u P left (q : Int) = b := by
  have hx := h.ok.inv.lt _ (List.getElem_mem hq)
  obtain ⟨c, hc, k, e⟩ := h.below f l hd _ hw
  obtain ⟨c1, c2⟩ := hl c hc
  have e1 := childR_eq h.runs hD (p := P) hP (h.spV _ hx).1 (k := k) (by rw [e]; exact c2) (by rw [e]; exact (h.spV c c1).2)
  unfold SS.placeP
  rw [h.spotAt hq, e1, if_pos rfl]
  show S.isAhead u (S.unit (upN S.runs k _)) = b
  rw [e, h.unit c c1]
  exact hb c hc
end
end Go.Proofs.Ytnbphdmpbjahhaa

/- Package seq against the document's tree, mathematics alone: the place that the search finds is where the document puts the unit. -/
namespace Go.Proofs.Ytnbphdmpbjahhaa
set_option linter.unusedVariables false
set_option linter.unusedSimpArgs false

theorem RS.walk_append (r : RS) (a b : List Nat) : ∀ f, r.walk f (a ++ b) = r.walk f a ++ r.walk f b
  | 0 => rfl
  | f + 1 => by simp only [RS.walk]; rw [List.flatMap_append]
theorem RS.deep_sub (r : RS) {a b : List Nat} (hs : ∀ x ∈ a, x ∈ b) : ∀ f, r.Deep f b → r.Deep f a
  | 0, h => by
    have : b = [] := h
    subst this
    show a = []
    exact List.eq_nil_iff_forall_not_mem.2 fun x hx => (List.not_mem_nil (hs x hx)).elim
  | f + 1, h => fun x hx => h x (hs x hx)
/-- A leaf's walk. -/
theorem RS.walk_leaf (r : RS) {me : Nat} (h1 : (r.nd me).lefts = []) (h2 : (r.nd me).more = []) {g : Nat} (hg : 1 ≤ g) : r.walk g [me] = [me] := by
  obtain ⟨f, rfl⟩ : ∃ f, g = f + 1 := ⟨g - 1, by omega⟩
  rw [RS.walk_cons, h1, h2, RS.walk_nil, RS.walk_nil]; rfl
theorem count_nodup {l : List Nat} (h : ∀ x ∈ l, l.count x = 1) : l.Nodup := List.nodup_iff_count.2 fun x => by
  by_cases hx : x ∈ l
  · rw [h x hx]; exact Nat.le_refl _
  · rw [List.count_eq_zero.2 hx]; omega
theorem RInv.nodup {r : RS} (h : RInv r) : r.order.Nodup := count_nodup fun x hx => h.one x (h.lt x hx)
/-- Where a node stands. -/
theorem RInv.place_at {r : RS} (h : RInv r) {X Y : List Nat} {x : Nat} (e : r.order = X ++ x :: Y) : r.place (x : Int) = (X.length : Int) := by
  have hx : x < r.l.length := h.lt x (by rw [e]; simp)
  obtain ⟨i, hi, e1, e2⟩ := h.place_ok x hx
  have hX : X.length < r.order.length := by rw [e]; simp
  have e3 : r.order[X.length] = x := by simp [e]
  have hp := List.pairwise_iff_getElem.1 h.nodup
  have : i = X.length := by
    rcases Nat.lt_trichotomy i X.length with q | q | q
    · exact absurd (by rw [e1, e3]) (hp i X.length hi hX q)
    · exact q
    · exact absurd (by rw [e1, e3]) (hp X.length i hX hi q)
  rw [e2, this]
section
variable {S : SS} {r : RS} {sp : Nat → Sp}
theorem Corr.nd_ok (h : Corr S r sp) (x : Nat) (hx : x < r.l.length) : (r.nd x).u.ok := by
  obtain ⟨a, b, c, d⟩ := h.inv.spot_run (h.mem x hx)
  have f := h.inv.fst (sp x).run
  rw [← h.unit x hx]
  show (unitR S.runs (sp x)).ok
  unfold unitR
  split
  · exact f
  · next hp => 
    obtain ⟨f1, f2, f3, f4, f5, f6⟩ := f
    exact ⟨f1, by show 0 ≤ _ + (sp x).pos ∧ _ + (sp x).pos < _; omega, f1, by show 0 ≤ _ + (sp x).pos - 1 ∧ _ + (sp x).pos - 1 < _; omega, f5, f6⟩
/-- The search turns where the answers do. -/
theorem SS.turn {u : Un} {lo hi m : Nat} (hb : S.between u = ((lo : Int), (hi : Int), true)) (h1 : lo ≤ m) (h2 : m ≤ hi) (ha : ∀ q, lo ≤ q → q < m → S.placeP u (S.parentOf u).1 (S.parentOf u).2 (q : Int) = false) (hc : ∀ q, m ≤ q → q < hi → S.placeP u (S.parentOf u).1 (S.parentOf u).2 (q : Int) = true) : S.placeFor u = (m : Int) := by
  unfold SS.placeFor SS.placeOf
  rw [hb]
  show (lo : Int) + (bis (fun i : Nat => S.placeP u (S.parentOf u).1 (S.parentOf u).2 ((lo : Int) + (i : Int))) ((hi : Int) - (lo : Int)).toNat 0 ((hi : Int) - (lo : Int)).toNat : Nat) = _
  have e : ((hi : Int) - (lo : Int)).toNat = hi - lo := by omega
  rw [e, bis_at (m := m - lo) (hi - lo) 0 (hi - lo) (by omega) (by omega) (by omega) (fun q a b => ?_) (fun q a b => ?_)]
  · omega
  · have := ha (lo + q) (by omega) (by omega)
    rw [Int.natCast_add] at this; exact this
  · have := hc (lo + q) (by omega) (by omega)
    rw [Int.natCast_add] at this; exact this
/-- Between which places. -/
theorem Corr.between (h : Corr S r sp) {u : Un} (hu : u.ok) (hm : MayR r u) : S.between u = (r.findP u.lc u.lk + 1, S.rightOf u, true) := by
  have hmay : S.may u 1 = true := by rw [h.may hu]; exact may_r.2 hm
  obtain ⟨_, _, _, _, d⟩ := may_iff.1 hmay
  unfold SS.between at d ⊢
  split at d
  · cases d
  · next hn => rw [if_neg hn, h.find hu.lc hu.lk.1]
theorem Corr.left_lo (h : Corr S r sp) {c k : Int} : (r.find c k = -1 ∧ r.findP c k + 1 = 0) ∨ ∃ t : Nat, t < r.l.length ∧ r.find c k = (t : Int) ∧ r.findP c k = r.place (t : Int) := by
  have hb := RS.find_lt (r := r) c k
  unfold RS.findP
  by_cases e : r.find c k < 0
  · rw [if_pos e]; exact .inl ⟨by omega, rfl⟩
  · rw [if_neg e]
    obtain ⟨t, ht⟩ := Int.eq_ofNat_of_zero_le (show 0 ≤ r.find c k by omega)
    exact .inr ⟨t, (RS.find_id ht).1, ht, by rw [ht]⟩
/-- A right child of the root. -/
theorem Corr.place0 (h : Corr S r sp) {u : Un} (hu : u.ok) (hm : MayR r u) (hL : r.isL u = false) (hf : r.find u.lc u.lk = -1) (hk : ∀ x, x < r.l.length → SameK r (r.laid u) x) (hs : (r.laid u).more = (r.with1 u).amongL r.more r.l.length) : ∃ A B, r.order = A ++ B ∧ (r.laid u).order = A ++ r.l.length :: B ∧ S.placeFor u = (A.length : Int) := by
  have L := laid1 r u
  have hD := h.inv.down
  have hI' := (h.ok.inv.laidI u).1
  have hme : (r.laid u).nd r.l.length = r.node u := L.me
  have hur : RgtOk r u := hm.right
  obtain ⟨t1, t2⟩ := take_len_while (p := fun x => (r.with1 u).farther x r.l.length) r.more
  generalize hT : r.more.takeWhile (fun x => (r.with1 u).farther x r.l.length) = T at *
  generalize hDr : r.more.dropWhile (fun x => (r.with1 u).farther x r.l.length) = D at *
  have emore : r.more = T ++ D := by rw [← hT, ← hDr]; exact List.takeWhile_append_dropWhile.symm
  have emore' : (r.laid u).more = T ++ [r.l.length] ++ D := by
    rw [hs]; unfold RS.amongL withinL
    rw [hT, t1, t2]; simp
  have hd := RS.deep_up r _ _ h.ok.inv.deep
  have hdT : r.Deep (r.l.length + 1) T := RS.deep_sub r (fun x hx => by rw [emore]; exact List.mem_append_left _ hx) _ hd
  have hdD : r.Deep (r.l.length + 1) D := RS.deep_sub r (fun x hx => by rw [emore]; exact List.mem_append_right _ hx) _ hd
  have eo : r.order = r.walk (r.l.length + 1) T ++ r.walk (r.l.length + 1) D := by
    rw [← RS.walk_append, ← emore, RS.walk_fuel r _ _ h.ok.inv.deep]; exact h.ok.inv.ord
  have sT : (r.laid u).walk (r.l.length + 1) T = r.walk (r.l.length + 1) T := RS.walk_same _ _ _ _ fun x hx => hk x (RS.mem_lt r _ _ hdT x hx)
  have sD : (r.laid u).walk (r.l.length + 1) D = r.walk (r.l.length + 1) D := RS.walk_same _ _ _ _ fun x hx => hk x (RS.mem_lt r _ _ hdD x hx)
  have es : (r.laid u).order = r.walk (r.l.length + 1) T ++ r.l.length :: r.walk (r.l.length + 1) D := by
    rw [hI'.ord, L.len, emore', RS.walk_append, RS.walk_append, sT, sD, RS.walk_leaf _ (by rw [hme]; rfl) (by rw [hme]; rfl) (by omega)]
    simp
  refine ⟨_, _, eo, es, ?_⟩
  have hR : u.rc = 0 ∧ u.rk = 0 := by
    refine Decidable.byContradiction fun e => ?_
    have hne : r.find u.rc u.rk ≠ -1 := by
      rcases hm.right with q | q
      · exact absurd q e
      · exact q
    have hb := RS.find_lt (r := r) u.rc u.rk
    have hl0 : u.lc = 0 ∧ u.lk = 0 := by
      rcases hm.left with q | q
      · exact q
      · exact absurd hf q
    unfold RS.isL at hL
    rw [decide_eq_true (by omega : 0 ≤ r.find u.rc u.rk), decide_eq_true hl0] at hL
    simp at hL
  have hbt := h.between hu hm
  have hlo : r.findP u.lc u.lk + 1 = 0 := by
    unfold RS.findP
    rw [if_pos (by omega)]; rfl
  have hhi : S.rightOf u = (r.order.length : Int) := by
    unfold SS.rightOf
    rw [if_pos hR, h.total, h.ok.inv.len]
  have hp := h.parentOf hD hm
  have hp1 : (S.parentOf u).1 = .zero := by
    rw [hp]
    show spI sp (if r.isL u then r.find u.rc u.rk else r.find u.lc u.lk) = _
    rw [hL, if_neg (by simp), hf]; rfl
  have hp2 : (S.parentOf u).2 = false := by rw [hp]; exact hL
  rw [hlo, hhi] at hbt
  have kids : ∀ c ∈ r.more, c < r.l.length ∧ parS S.runs (sp c) = .zero := fun c hc => ⟨h.ok.inv.root c hc, h.par0 c (h.ok.inv.root c hc) (h.ok.kid0 c hc)⟩
  have ah : ∀ c, c < r.l.length → S.isAhead u (r.nd c).u = r.fart u (r.nd c).u := fun c hc => h.ahead hu (h.nd_ok c hc) hur (h.ok.rgt c hc)
  have pe : ∀ x, x < r.l.length → (r.with1 u).farther x r.l.length = r.fart (r.nd x).u u := fun x hx' => by
    rw [RS.farther_eq, with1_nd, if_neg (by omega), with1_nd, if_pos rfl]
    exact fart_with1 r u (h.ok.rgt x hx') hur
  have aT : ∀ c ∈ T, S.isAhead u (r.nd c).u = false := fun c hc => by
    have hcm : c ∈ r.more := by rw [emore]; exact List.mem_append_left _ hc
    have hcl := (kids c hcm).1
    rw [ah c hcl]
    have e1 : r.fart (r.nd c).u u = true := by
      rw [← pe c hcl]
      exact List.all_eq_true.1 (List.all_takeWhile (p := fun x => (r.with1 u).farther x r.l.length) (l := r.more)) c (by rw [hT]; exact hc)
    cases e2 : r.fart u (r.nd c).u with
    | false => rfl
    | true =>
      rw [RS.fart_iff] at e1 e2
      omega
  have aD : ∀ c ∈ D, S.isAhead u (r.nd c).u = true := fun c hc => by
    have hcm : c ∈ r.more := by rw [emore]; exact List.mem_append_right _ hc
    have hcl := (kids c hcm).1
    rw [ah c hcl]
    have hs0 := h.ok.sort0
    rw [emore] at hs0
    have hs1 := (List.pairwise_append.1 hs0).2.1
    have newid : ∀ y, y < r.l.length → ¬ ((r.nd y).u.c = u.c ∧ (r.nd y).u.k = u.k) := fun y hy e => RS.find_ex hy e.1 e.2 hm.new
    cases hd : D with
    | nil => rw [hd] at hc; exact (List.not_mem_nil hc).elim
    | cons z D' =>
      have hz : (r.with1 u).farther z r.l.length = false := by
        have := List.head?_dropWhile_not (fun x => (r.with1 u).farther x r.l.length) r.more
        rw [hDr, hd] at this
        simpa using this
      have hzl := (kids z (by rw [emore, hd]; simp)).1
      have hz1 : r.fart u (r.nd z).u = true := RS.fart_total r (by rw [← pe z hzl]; exact hz) (newid z hzl)
      rw [hd] at hs1 hc
      rcases List.mem_cons.1 hc with rfl | hc
      · exact hz1
      · have := (List.pairwise_cons.1 hs1).1 c hc
        rw [RS.farther_eq] at this
        exact RS.fart_trans r hz1 this
  refine SS.turn (lo := 0) (hi := r.order.length) hbt (Nat.zero_le _) (by rw [eo]; simp) (fun q _ hq => ?_) (fun q hq hq2 => ?_)
  · have hq' : q < r.order.length := by rw [eo, List.length_append]; omega
    rw [hp1]
    refine h.see hD h.zeroV hdT (fun c hc => kids c (by rw [emore]; exact List.mem_append_left _ hc)) aT hq' ?_
    have : r.order[q] = (r.walk (r.l.length + 1) T)[q] := by simp only [eo]; exact List.getElem_append_left hq
    rw [this]; exact List.getElem_mem _
  · rw [hp1]
    refine h.see hD h.zeroV hdD (fun c hc => kids c (by rw [emore]; exact List.mem_append_right _ hc)) aD hq2 ?_
    have : r.order[q] = (r.walk (r.l.length + 1) D)[q - (r.walk (r.l.length + 1) T).length]'(by rw [eo, List.length_append] at hq2; omega) := by simp only [eo]; exact List.getElem_append_right hq
    rw [this]; exact List.getElem_mem _
end
end Go.Proofs.Ytnbphdmpbjahhaa
