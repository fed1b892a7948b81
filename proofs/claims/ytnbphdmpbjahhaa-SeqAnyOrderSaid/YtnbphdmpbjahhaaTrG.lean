/- The document's tree of units (quireref9), mathematics alone: it is a function of the set of its units. -/
import Derived.Test.YtnbphdmpbjahhaaPart28
import Derived.Test.YtnbphdmpbjahhaaPart31
namespace Go.Proofs.Ytnbphdmpbjahhaa
set_option linter.unusedVariables false
set_option linter.unusedSimpArgs false

theorem ROk.org {r : RS} (h : ROk r) {x : Nat} (hx : x < r.l.length) : (((r.nd x).u.lc = 0 ∧ (r.nd x).u.lk = 0) ∨ r.find (r.nd x).u.lc (r.nd x).u.lk ≠ -1) ∧ (((r.nd x).u.rc = 0 ∧ (r.nd x).u.rk = 0) ∨ r.find (r.nd x).u.rc (r.nd x).u.rk ≠ -1) := by
  refine ⟨(h.orgL x hx).imp (fun a => a) fun ⟨y, hy, e1, e2⟩ => ?_, (h.orgR x hx).imp (fun a => a) fun ⟨y, hy, e1, e2⟩ => ?_⟩
  · exact RS.find_ex (by omega) e1 e2
  · exact RS.find_ex (by omega) e1 e2
/-- Which child a node is, and of which one, is told by its unit; and it stands between its origins. -/
structure TOk (r : RS) : Prop where
  ok : ROk r
  par : ∀ y, y < r.l.length → (r.nd y).par = (r.node (r.nd y).u).par
  lf : ∀ z, z < r.l.length → ∀ y ∈ (r.nd z).lefts, r.isL (r.nd y).u = true
  mr : ∀ z, z < r.l.length → ∀ y ∈ (r.nd z).more, r.isL (r.nd y).u = false
  rt : ∀ y ∈ r.more, r.isL (r.nd y).u = false
  btwL : ∀ x t : Nat, x < r.l.length → r.find (r.nd x).u.lc (r.nd x).u.lk = (t : Int) → r.place (t : Int) < r.place (x : Int)
  btwR : ∀ x q : Nat, x < r.l.length → r.find (r.nd x).u.rc (r.nd x).u.rk = (q : Int) → r.place (x : Int) < r.place (q : Int)
theorem TOk.zero : TOk .zero := ⟨ROk.zero, fun y h => absurd h (Nat.not_lt_zero _), fun y h => absurd h (Nat.not_lt_zero _), fun y h => absurd h (Nat.not_lt_zero _), fun y h => (List.not_mem_nil h).elim, fun x t h => absurd h (Nat.not_lt_zero _), fun x t h => absurd h (Nat.not_lt_zero _)⟩
/-- The children behind an Insert. -/
theorem laid_kids (r : RS) (u : Un) : (∀ z, z < r.l.length + 1 → ∀ y ∈ ((r.laid u).nd z).lefts, (z < r.l.length ∧ y ∈ (r.nd z).lefts) ∨ (y = r.l.length ∧ r.isL u = true)) ∧ (∀ z, z < r.l.length + 1 → ∀ y ∈ ((r.laid u).nd z).more, (z < r.l.length ∧ y ∈ (r.nd z).more) ∨ (y = r.l.length ∧ r.isL u = false)) ∧ ∀ y ∈ (r.laid u).more, y ∈ r.more ∨ (y = r.l.length ∧ r.isL u = false) := by
  have L := laid1 r u
  have hme : (r.laid u).nd r.l.length = r.node u := L.me
  have key : ∀ z, z < r.l.length + 1 → z < r.l.length ∨ z = r.l.length := fun z hz => by omega
  rcases L.put with ⟨e1, _, e3, p, e4, e5, e6, e7, e8⟩ | ⟨e1, _, ⟨e3, p, e4, e5, e6, e7, e8⟩ | ⟨e4, e6, e8⟩⟩
  · refine ⟨fun z hz y hy => ?_, fun z hz y hy => ?_, fun y hy => .inl (by rw [e3] at hy; exact hy)⟩
    · rcases key z hz with hz | rfl
      · by_cases hp : z = p
        · subst hp
          rw [e8] at hy
          rcases mem_within.1 hy with rfl | hy
          · exact .inr ⟨rfl, e1⟩
          · exact .inl ⟨hz, hy⟩
        · rw [(e6 z hz hp).1] at hy; exact .inl ⟨hz, hy⟩
      · rw [hme] at hy; exact (List.not_mem_nil hy).elim
    · rcases key z hz with hz | rfl
      · by_cases hp : z = p
        · subst hp
          rw [e7] at hy; exact .inl ⟨hz, hy⟩
        · rw [(e6 z hz hp).2] at hy; exact .inl ⟨hz, hy⟩
      · rw [hme] at hy; exact (List.not_mem_nil hy).elim
  · refine ⟨fun z hz y hy => ?_, fun z hz y hy => ?_, fun y hy => .inl (by rw [e3] at hy; exact hy)⟩
    · rcases key z hz with hz | rfl
      · by_cases hp : z = p
        · subst hp
          rw [e7] at hy; exact .inl ⟨hz, hy⟩
        · rw [(e6 z hz hp).1] at hy; exact .inl ⟨hz, hy⟩
      · rw [hme] at hy; exact (List.not_mem_nil hy).elim
    · rcases key z hz with hz | rfl
      · by_cases hp : z = p
        · subst hp
          rw [e8] at hy
          rcases mem_within.1 hy with rfl | hy
          · exact .inr ⟨rfl, e1⟩
          · exact .inl ⟨hz, hy⟩
        · rw [(e6 z hz hp).2] at hy; exact .inl ⟨hz, hy⟩
      · rw [hme] at hy; exact (List.not_mem_nil hy).elim
  · refine ⟨fun z hz y hy => ?_, fun z hz y hy => ?_, fun y hy => ?_⟩
    · rcases key z hz with hz | rfl
      · rw [(e6 z hz).1] at hy; exact .inl ⟨hz, hy⟩
      · rw [hme] at hy; exact (List.not_mem_nil hy).elim
    · rcases key z hz with hz | rfl
      · rw [(e6 z hz).2] at hy; exact .inl ⟨hz, hy⟩
      · rw [hme] at hy; exact (List.not_mem_nil hy).elim
    · rw [e8] at hy
      rcases mem_within.1 hy with rfl | hy
      · exact .inr ⟨rfl, e1⟩
      · exact .inl hy
theorem RInv.place_ge {r : RS} (h : RInv r) {x : Nat} (hx : x < r.l.length) : 0 ≤ r.place (x : Int) ∧ r.place (x : Int) < (r.l.length : Int) := by
  obtain ⟨i, hi, _, e⟩ := h.place_ok x hx
  have := h.len
  omega
theorem TOk.laid {r : RS} {S : SS} {sp : Nat → Sp} {u : Un} (h : TOk r) (hc : Corr S r sp) (hu : u.ok) (hm : MayR r u) : TOk (r.laid u) := by
  obtain ⟨A, B, eo, es, ep⟩ := hc.place hu hm
  have hmay : S.may u 1 = true := by rw [hc.may hu]; exact may_r.2 hm
  obtain ⟨_, _, _, _, fb⟩ := may_iff.1 hmay
  obtain ⟨hhi, hlo⟩ := hc.inv.placeHi hu fb
  rw [ep] at hhi hlo
  have L := laid1 r u
  have ok' := h.ok.laid hm
  obtain ⟨kl, km, k0⟩ := laid_kids r u
  have hsl : (r.laid u).l.length = r.l.length + 1 := L.len
  have nm : ∀ {v : Un}, ((v.lc = 0 ∧ v.lk = 0) ∨ r.find v.lc v.lk ≠ -1) → ((v.rc = 0 ∧ v.rk = 0) ∨ r.find v.rc v.rk ≠ -1) → (r.laid u).isL v = r.isL v ∧ ((r.laid u).node v).par = (r.node v).par := fun h1 h2 => node_more h.ok ok' (by omega) L.old h1 h2
  have fo : ∀ {c k : Int}, ((c = 0 ∧ k = 0) ∨ r.find c k ≠ -1) → (r.laid u).find c k = r.find c k := fun hf => find_old h.ok ok' (by omega) (fun x hx => (L.old x hx).1) hf
  have hmeu : ((r.laid u).nd r.l.length).u = u := by rw [L.me]; rfl
  have pl : ∀ x, x < r.l.length → (r.laid u).place (x : Int) = shP A.length (r.place (x : Int)) := fun x hx => place_more eo es x (by omega) (by have := (h.ok.inv.place_ge hx).1; omega)
  have pme : (r.laid u).place (r.l.length : Int) = (A.length : Int) := ok'.inv.place_at es
  have old : ∀ y, y < r.l.length → (r.laid u).isL ((r.laid u).nd y).u = r.isL (r.nd y).u := fun y hy => by
    rw [(L.old y hy).1]; exact (nm (h.ok.org hy).1 (h.ok.org hy).2).1
  have newL : (r.laid u).isL ((r.laid u).nd r.l.length).u = r.isL u := by rw [hmeu]; exact (nm hm.left hm.right).1
  have kidlt := h.ok.inv.kids
  refine ⟨ok', fun y hy => ?_, fun z hz y hy => ?_, fun z hz y hy => ?_, fun y hy => ?_, fun x t hx hf => ?_, fun x q hx hf => ?_⟩
  · rw [hsl] at hy
    by_cases hyl : y < r.l.length
    · rw [(L.old y hyl).2, (L.old y hyl).1, (nm (h.ok.org hyl).1 (h.ok.org hyl).2).2]; exact h.par y hyl
    · have : y = r.l.length := by omega
      subst this
      rw [hmeu, L.me, (nm hm.left hm.right).2]
  · rw [hsl] at hz
    rcases kl z hz y hy with ⟨hz', hy'⟩ | ⟨rfl, e⟩
    · rw [old y ((kidlt z hz').1 y hy')]; exact h.lf z hz' y hy'
    · rw [newL]; exact e
  · rw [hsl] at hz
    rcases km z hz y hy with ⟨hz', hy'⟩ | ⟨rfl, e⟩
    · rw [old y ((kidlt z hz').2 y hy')]; exact h.mr z hz' y hy'
    · rw [newL]; exact e
  · rcases k0 y hy with hy' | ⟨rfl, e⟩
    · rw [old y (h.ok.inv.root y hy')]; exact h.rt y hy'
    · rw [newL]; exact e
  · rw [hsl] at hx
    by_cases hxl : x < r.l.length
    · rw [(L.old x hxl).1, fo (h.ok.org hxl).1] at hf
      have ht := (RS.find_id hf).1
      rw [pl x hxl, pl t ht]
      exact shP_lt.2 (h.btwL x t hxl hf)
    · have : x = r.l.length := by omega
      subst this
      rw [hmeu, fo hm.left] at hf
      have ht := (RS.find_id hf).1
      rw [pl t ht, pme]
      have e1 := hc.find hu.lc hu.lk.1
      unfold RS.findP at e1
      rw [hf, if_neg (by omega)] at e1
      unfold shP
      rw [if_pos (by omega)]; omega
  · rw [hsl] at hx
    by_cases hxl : x < r.l.length
    · rw [(L.old x hxl).1, fo (h.ok.org hxl).2] at hf
      have hq := (RS.find_id hf).1
      rw [pl x hxl, pl q hq]
      exact shP_lt.2 (h.btwR x q hxl hf)
    · have : x = r.l.length := by omega
      subst this
      rw [hmeu, fo hm.right] at hf
      have hq := (RS.find_id hf).1
      rw [pl q hq, pme]
      have e0 : ¬ (u.rc = 0 ∧ u.rk = 0) := fun q0 => by rw [q0.1, q0.2, h.ok.find0] at hf; omega
      unfold SS.rightOf at hhi
      rw [if_neg e0, hc.find hu.rc hu.rk.1] at hhi
      unfold RS.findP at hhi
      rw [hf, if_neg (by omega)] at hhi
      unfold shP
      rw [if_neg (by omega)]; omega
/-- One stands ahead of the other. -/
def Bf (l : List Nat) (a b : Nat) : Prop := ∃ X Y, l = X ++ a :: Y ∧ b ∈ Y
theorem RInv.bf {r : RS} (h : RInv r) {a b : Nat} (ha : a < r.l.length) (hb : b < r.l.length) : Bf r.order a b ↔ r.place (a : Int) < r.place (b : Int) := by
  constructor
  · rintro ⟨X, Y, e, hy⟩
    obtain ⟨Y1, Y2, rfl⟩ := List.append_of_mem hy
    have e2 : r.order = (X ++ a :: Y1) ++ b :: Y2 := by rw [e]; simp
    rw [h.place_at e, h.place_at e2]
    simp only [List.length_append, List.length_cons]
    omega
  · intro hlt
    obtain ⟨i, hi, i1, i2⟩ := h.place_ok a ha
    obtain ⟨j, hj, j1, j2⟩ := h.place_ok b hb
    have hij : i < j := by omega
    refine ⟨r.order.take i, r.order.drop (i + 1), ?_, ?_⟩
    · rw [← i1]
      have := List.take_append_drop i r.order
      rw [List.drop_eq_getElem_cons hi] at this
      exact this.symm
    · refine List.mem_iff_getElem.2 ⟨j - (i + 1), by rw [List.length_drop]; omega, ?_⟩
      rw [List.getElem_drop]
      have e : i + 1 + (j - (i + 1)) = j := by omega
      simp only [e]
      exact j1
theorem Bf.map {l : List Nat} {a b : Nat} (f : Nat → Nat) : Bf l a b → Bf (l.map f) (f a) (f b) := by
  rintro ⟨X, Y, rfl, hy⟩
  exact ⟨X.map f, Y.map f, by simp, List.mem_map.2 ⟨b, hy, rfl⟩⟩
theorem Bf.of_filter {l : List Nat} {a b : Nat} {p : Nat → Bool} : Bf (l.filter p) a b → Bf l a b := by
  rintro ⟨X, Y, e, hy⟩
  obtain ⟨l1, l2, rfl, _, e2⟩ := List.filter_eq_append_iff.1 e
  obtain ⟨m1, m2, rfl, _, _, e3⟩ := List.filter_eq_cons_iff.1 e2
  rw [← e3] at hy
  exact ⟨l1 ++ m1, m2, by simp, (List.mem_filter.1 hy).1⟩
/-- Is a number one that f gives? -/
def inI (f : Nat → Nat) (n : Nat) (y : Nat) : Bool := (List.range n).any fun x => f x == y
theorem inI_iff {f : Nat → Nat} {n y : Nat} : inI f n y = true ↔ ∃ x, x < n ∧ f x = y := by
  unfold inI
  rw [List.any_eq_true]
  constructor
  · rintro ⟨x, hx, e⟩
    exact ⟨x, List.mem_range.1 hx, by simpa using e⟩
  · rintro ⟨x, hx, e⟩
    exact ⟨x, List.mem_range.2 hx, by simpa using e⟩
/-- Each node of r2 is one of r1's, by its unit. -/
def Img (r1 r2 : RS) (f : Nat → Nat) : Prop := ∀ x, x < r2.l.length → f x < r1.l.length ∧ (r1.nd (f x)).u = (r2.nd x).u
section
variable {r1 r2 : RS} {f : Nat → Nat}
theorem Img.inj (h : Img r1 r2 f) (h2 : ROk r2) {x y : Nat} (hx : x < r2.l.length) (hy : y < r2.l.length) (e : f x = f y) : x = y := by
  have e1 := (h x hx).2
  have e2 := (h y hy).2
  rw [e] at e1
  exact h2.uniq x y hx hy (by rw [← e1, e2]) (by rw [← e1, e2])
theorem Img.find (h : Img r1 r2 f) (h1 : ROk r1) {c k : Int} {x : Nat} (hx : r2.find c k = (x : Int)) : r1.find c k = (f x : Int) := by
  obtain ⟨f0, f1, f2⟩ := RS.find_id hx
  obtain ⟨a, b⟩ := h x f0
  exact h1.find_at a (by rw [b]; exact f1) (by rw [b]; exact f2)
/-- A number of r2's as one of r1's. -/
def phI (f : Nat → Nat) (i : Int) : Int := if i < 0 then -1 else (f i.toNat : Int)
theorem Img.findI (h : Img r1 r2 f) (h1 : ROk r1) (h2 : ROk r2) {c k : Int} (hf : (c = 0 ∧ k = 0) ∨ r2.find c k ≠ -1) : r1.find c k = phI f (r2.find c k) := by
  unfold phI
  by_cases e : r2.find c k = -1
  · rcases hf with ⟨rfl, rfl⟩ | hf
    · rw [if_pos (by omega), h1.find0]
    · exact absurd e hf
  · have hb := RS.find_lt (r := r2) c k
    obtain ⟨y, hy⟩ := Int.eq_ofNat_of_zero_le (show 0 ≤ r2.find c k by omega)
    rw [hy, if_neg (by omega), Int.toNat_natCast]
    exact h.find h1 hy
theorem anc_iff' {r : RS} (hI : RInv r) {t x : Nat} (hx : x < r.l.length) : r.anc (t : Int) x ↔ (r.nd x).par = (t : Int) ∨ ∃ p : Nat, (r.nd x).par = (p : Int) ∧ r.anc (t : Int) p := by
  constructor
  · rintro ⟨g, hg⟩
    cases g with
    | zero => simp [RS.ups] at hg
    | succ g =>
      unfold RS.ups at hg
      by_cases hn : (r.nd x).par < 0
      · rw [if_pos hn] at hg; cases hg
      · rw [if_neg hn, Bool.or_eq_true, beq_iff_eq] at hg
        rcases hg with hg | hg
        · exact .inl hg
        · obtain ⟨p, hp⟩ := Int.eq_ofNat_of_zero_le (show 0 ≤ (r.nd x).par by omega)
          rw [hp, Int.toNat_natCast] at hg
          exact .inr ⟨p, hp, g, hg⟩
  · rintro (h | ⟨p, hp, h⟩)
    · exact anc_par h (by omega)
    · exact anc_step hp h
/-- What is above what: the same in both. -/
theorem Img.anc (h : Img r1 r2 f) (h1 : ROk r1) (h2 : ROk r2) {n : Nat} (hP : ∀ x, x < n → x < r2.l.length → (r1.nd (f x)).par = phI f (r2.nd x).par) {t : Nat} (ht : t < r2.l.length) : ∀ x, x < n → x < r2.l.length → (r2.anc (t : Int) x ↔ r1.anc (f t : Int) (f x)) := by
  intro x
  induction x using Nat.strongRecOn with
  | ind x ih =>
    intro hxn hx
    have hp := hP x hxn hx
    have hup := h2.inv.up x hx
    rw [anc_iff' h2.inv hx, anc_iff' h1.inv (h x hx).1]
    by_cases hn : (r2.nd x).par < 0
    · have : (r1.nd (f x)).par = -1 := by rw [hp]; unfold phI; rw [if_pos hn]
      constructor
      · rintro (e | ⟨p, e, _⟩) <;> omega
      · rintro (e | ⟨p, e, _⟩) <;> omega
    · obtain ⟨p, hpp⟩ := Int.eq_ofNat_of_zero_le (show 0 ≤ (r2.nd x).par by omega)
      have e1 : (r1.nd (f x)).par = (f p : Int) := by rw [hp, hpp]; unfold phI; rw [if_neg (by omega), Int.toNat_natCast]
      have ih' := ih p (by omega) (by omega) (by omega)
      rw [hpp, e1]
      constructor
      · rintro (e | ⟨p', e, q⟩)
        · have : p = t := by omega
          subst this; exact .inl rfl
        · have : p' = p := by omega
          subst this; exact .inr ⟨f p', rfl, ih'.1 q⟩
      · rintro (e | ⟨p', e, q⟩)
        · have : p = t := h.inj h2 (by omega) ht (by omega)
          subst this; exact .inl rfl
        · have : p' = f p := by omega
          subst this; exact .inr ⟨p, rfl, ih'.2 q⟩
/-- Parents and sides are the same in both. -/
theorem Img.par (h : Img r1 r2 f) (h1 : TOk r1) (h2 : TOk r2) : ∀ n x, x < n → x < r2.l.length → (r1.nd (f x)).par = phI f (r2.nd x).par ∧ r1.isL (r2.nd x).u = r2.isL (r2.nd x).u
  | 0, x, hn, _ => absurd hn (Nat.not_lt_zero _)
  | n + 1, x, hn, hx => by
    by_cases hlt : x < n
    · exact h.par h1 h2 n x hlt hx
    · have hxn : x = n := by omega
      subst hxn
      have ih : ∀ y, y < x → y < r2.l.length → (r1.nd (f y)).par = phI f (r2.nd y).par := fun y hy hy' => (h.par h1 h2 x y hy hy').1
      obtain ⟨oL, oR⟩ := h2.ok.org hx
      have eL := h.findI h1.ok h2.ok oL
      have eR := h.findI h1.ok h2.ok oR
      have hsd : r1.isL (r2.nd x).u = r2.isL (r2.nd x).u := by
        have key : r1.isL (r2.nd x).u = true ↔ r2.isL (r2.nd x).u = true := by
          rw [h1.ok.isL_iff, h2.ok.isL_iff]
          have fwd : ∀ q : Nat, r2.find (r2.nd x).u.rc (r2.nd x).u.rk = (q : Int) → q < x := fun q hq => by
            rcases h2.ok.orgR x hx with e | ⟨y, hy, e1, e2⟩
            · rw [e.1, e.2, h2.ok.find0] at hq; omega
            · have := h2.ok.find_at (x := y) (by omega) e1 e2
              omega
          constructor
          · rintro ⟨q1, hq1, h3⟩
            rw [eR] at hq1
            unfold phI at hq1
            by_cases hn0 : r2.find (r2.nd x).u.rc (r2.nd x).u.rk < 0
            · rw [if_pos hn0] at hq1; omega
            · rw [if_neg hn0] at hq1
              obtain ⟨q, hq⟩ := Int.eq_ofNat_of_zero_le (show 0 ≤ r2.find (r2.nd x).u.rc (r2.nd x).u.rk by omega)
              rw [hq, Int.toNat_natCast] at hq1
              have hqe : f q = q1 := by omega
              subst hqe
              refine ⟨q, hq, h3.imp (fun a => a) fun h3 => ?_⟩
              by_cases hl : (r2.nd x).u.lc = 0 ∧ (r2.nd x).u.lk = 0
              · rw [hl.1, hl.2, h1.ok.find0] at h3
                obtain ⟨g, hg⟩ := h3
                have : ∀ (g : Nat) (up : Int), r1.ups (-1) g up = false := fun g => by
                  induction g with
                  | zero => intro up; rfl
                  | succ g ih => 
                    intro up
                    unfold RS.ups
                    split
                    · rfl
                    · rw [ih, Bool.or_false, beq_eq_false_iff_ne]; omega
                rw [this] at hg; cases hg
              · have hb := RS.find_lt (r := r2) (r2.nd x).u.lc (r2.nd x).u.lk
                have hne := oL.resolve_left hl
                obtain ⟨t, ht⟩ := Int.eq_ofNat_of_zero_le (show 0 ≤ r2.find (r2.nd x).u.lc (r2.nd x).u.lk by omega)
                rw [eL, ht] at h3
                unfold phI at h3
                rw [if_neg (by omega), Int.toNat_natCast] at h3
                rw [ht]
                exact (h.anc h1.ok h2.ok ih (RS.find_id ht).1 q (fwd q hq) (RS.find_id hq).1).2 h3
          · rintro ⟨q, hq, h3⟩
            refine ⟨f q, h.find h1.ok hq, ?_⟩
            by_cases hl : (r2.nd x).u.lc = 0 ∧ (r2.nd x).u.lk = 0
            · exact .inl hl
            · have h3 := h3.resolve_left hl
              have hb := RS.find_lt (r := r2) (r2.nd x).u.lc (r2.nd x).u.lk
              have hne := oL.resolve_left hl
              obtain ⟨t, ht⟩ := Int.eq_ofNat_of_zero_le (show 0 ≤ r2.find (r2.nd x).u.lc (r2.nd x).u.lk by omega)
              rw [ht] at h3
              rw [h.find h1.ok ht]
              exact .inr ((h.anc h1.ok h2.ok ih (RS.find_id ht).1 q (fwd q hq) (RS.find_id hq).1).1 h3)
        cases a : r1.isL (r2.nd x).u <;> cases b : r2.isL (r2.nd x).u <;> simp_all
      refine ⟨?_, hsd⟩
      rw [h1.par _ (h x hx).1, (h x hx).2, h2.par x hx]
      show (if r1.isL _ then _ else _) = phI f (if r2.isL _ then _ else _)
      rw [hsd]
      split
      · exact eR
      · exact eL
end
/-- Two sorted lists of the same members. -/
theorem sorted_eq {R : Nat → Nat → Prop} (ha : ∀ a b, R a b → ¬ R b a) : ∀ {l k : List Nat}, l.Pairwise R → k.Pairwise R → (∀ x, x ∈ l ↔ x ∈ k) → l = k
  | [], [], _, _, _ => rfl
  | [], y :: k, _, _, h => ((h y).2 (by simp) |> List.not_mem_nil).elim
  | x :: l, [], _, _, h => ((h x).1 (by simp) |> List.not_mem_nil).elim
  | x :: l, y :: k, hl, hk, h => by
    obtain ⟨l1, l2⟩ := List.pairwise_cons.1 hl
    obtain ⟨k1, k2⟩ := List.pairwise_cons.1 hk
    have nr : ∀ a, ¬ R a a := fun a q => ha a a q q
    have hxy : x = y := by
      rcases List.mem_cons.1 ((h x).1 (by simp)) with e | e
      · exact e
      · rcases List.mem_cons.1 ((h y).2 (by simp)) with e' | e'
        · exact e'.symm
        · exact absurd (k1 x e) (ha _ _ (l1 y e'))
    subst hxy
    rw [sorted_eq ha l2 k2 fun z => ?_]
    constructor
    · intro hz
      rcases List.mem_cons.1 ((h z).1 (List.mem_cons_of_mem _ hz)) with rfl | e
      · exact absurd (l1 z hz) (nr z)
      · exact e
    · intro hz
      rcases List.mem_cons.1 ((h z).2 (List.mem_cons_of_mem _ hz)) with rfl | e
      · exact absurd (k1 z hz) (nr z)
      · exact e
end Go.Proofs.Ytnbphdmpbjahhaa
