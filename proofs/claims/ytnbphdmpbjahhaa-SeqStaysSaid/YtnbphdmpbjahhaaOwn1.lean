/- The document's tree of units (quireref9), mathematics alone: it is a function of the set of its units. -/
import Derived.Test.YtnbphdmpbjahhaaPart28
import Derived.Test.YtnbphdmpbjahhaaPart31
namespace Go.Proofs.Ytnbphdmpbjahhaa
set_option linter.unusedVariables false
set_option linter.unusedSimpArgs false

theorem ROk.org {r : RS} (h : ROk r) {x : Nat} (hx : x < r.l.length) : (((r.nd x).u.lc = 0 ∧ (r.nd x).u.lk = 0) ∨ r.find (r.nd x).u.lc (r.nd x).u.lk ≠ -1) ∧ (((r.nd x).u.rc = 0 ∧ (r.nd x).u.rk = 0) ∨ r.find (r.nd x).u.rc (r.nd x).u.rk ≠ -1) := by
  refine ⟨(h.orgL x hx).imp (fun a => a) fun ⟨y, hy, e1, e2⟩ => ?_, (h.orgR x hx).imp (fun a => a) fun ⟨y, hy, e1, e2⟩ => ?_⟩
  · exact RS.find_ex (by omega) e1 e2
  · exact RS.find_ex (by omega) e1 e2
/-- Which child a node is, and of which one, is told by its unit; and it stands between its origins. -/
structure TOk (r : RS) : Prop where
  ok : ROk r
  par : ∀ y, y < r.l.length → (r.nd y).par = (r.node (r.nd y).u).par
  lf : ∀ z, z < r.l.length → ∀ y ∈ (r.nd z).lefts, r.isL (r.nd y).u = true
  mr : ∀ z, z < r.l.length → ∀ y ∈ (r.nd z).more, r.isL (r.nd y).u = false
  rt : ∀ y ∈ r.more, r.isL (r.nd y).u = false
  btwL : ∀ x t : Nat, x < r.l.length → r.find (r.nd x).u.lc (r.nd x).u.lk = (t : Int) → r.place (t : Int) < r.place (x : Int)
  btwR : ∀ x q : Nat, x < r.l.length → r.find (r.nd x).u.rc (r.nd x).u.rk = (q : Int) → r.place (x : Int) < r.place (q : Int)
theorem TOk.zero : TOk .zero := ⟨ROk.zero, fun y h => absurd h (Nat.not_lt_zero _), fun y h => absurd h (Nat.not_lt_zero _), fun y h => absurd h (Nat.not_lt_zero _), fun y h => (List.not_mem_nil h).elim, fun x t h => absurd h (Nat.not_lt_zero _), fun x t h => absurd h (Nat.not_lt_zero _)⟩
/-- The children behind an Insert. -/
theorem laid_kids (r : RS) (u : Un) : (∀ z, z < r.l.length + 1 → ∀ y ∈ ((r.laid u).nd z).lefts, (z < r.l.length ∧ y ∈ (r.nd z).lefts) ∨ (y = r.l.length ∧ r.isL u = true)) ∧ (∀ z, z < r.l.length + 1 → ∀ y ∈ ((r.laid u).nd z).more, (z < r.l.length ∧ y ∈ (r.nd z).more) ∨ (y = r.l.length ∧ r.isL u = false)) ∧ ∀ y ∈ (r.laid u).more, y ∈ r.more ∨ (y = r.l.length ∧ r.isL u = false) := by
  have L := laid1 r u
  have hme : (r.laid u).nd r.l.length = r.node u := L.me
  have key : ∀ z, z < r.l.length + 1 → z < r.l.length ∨ z = r.l.length := fun z hz => by omega
  rcases L.put with ⟨e1, _, e3, p, e4, e5, e6, e7, e8⟩ | ⟨e1, _, ⟨e3, p, e4, e5, e6, e7, e8⟩ | ⟨e4, e6, e8⟩⟩
  · refine ⟨fun z hz y hy => ?_, fun z hz y hy => ?_, fun y hy => .inl (by rw [e3] at hy; exact hy)⟩
    · rcases key z hz with hz | rfl
      · by_cases hp : z = p
        · subst hp
          rw [e8] at hy
          rcases mem_within.1 hy with rfl | hy
          · exact .inr ⟨rfl, e1⟩
          · exact .inl ⟨hz, hy⟩
        · rw [(e6 z hz hp).1] at hy; exact .inl ⟨hz, hy⟩
      · rw [hme] at hy; exact (List.not_mem_nil hy).elim
    · rcases key z hz with hz | rfl
      · by_cases hp : z = p
        · subst hp
          rw [e7] at hy; exact .inl ⟨hz, hy⟩
        · rw [(e6 z hz hp).2] at hy; exact .inl ⟨hz, hy⟩
      · rw [hme] at hy; exact (List.not_mem_nil hy).elim
  · refine ⟨fun z hz y hy => ?_, fun z hz y hy => ?_, fun y hy => .inl (by rw [e3] at hy; exact hy)⟩
    · rcases key z hz with hz | rfl
      · by_cases hp : z = p
        · subst hp
          rw [e7] at hy; exact .inl ⟨hz, hy⟩
        · rw [(e6 z hz hp).1] at hy; exact .inl ⟨hz, hy⟩
      · rw [hme] at hy; exact (List.not_mem_nil hy).elim
    · rcases key z hz with hz | rfl
      · by_cases hp : z = p
        · subst hp
          rw [e8] at hy
          rcases mem_within.1 hy with rfl | hy
          · exact .inr ⟨rfl, e1⟩
          · exact .inl ⟨hz, hy⟩
        · rw [(e6 z hz hp).2] at hy; exact .inl ⟨hz, hy⟩
      · rw [hme] at hy; exact (List.not_mem_nil hy).elim
  · refine ⟨fun z hz y hy => ?_, fun z hz y hy => ?_, fun y hy => ?_⟩
    · rcases key z hz with hz | rfl
      · rw [(e6 z hz).1] at hy; exact .inl ⟨hz, hy⟩
      · rw [hme] at hy; exact (List.not_mem_nil hy).elim
    · rcases key z hz with hz | rfl
      · rw [(e6 z hz).2] at hy; exact .inl ⟨hz, hy⟩
      · rw [hme] at hy; exact (List.not_mem_nil hy).elim
    · rw [e8] at hy
      rcases mem_within.1 hy with rfl | hy
      · exact .inr ⟨rfl, e1⟩
      · exact .inl hy
theorem RInv.place_ge {r : RS} (h : RInv r) {x : Nat} (hx : x < r.l.length) : 0 ≤ r.place (x : Int) ∧ r.place (x : Int) < (r.l.length : Int) := by
  obtain ⟨i, hi, _, e⟩ := h.place_ok x hx
  have := h.len
  omega
theorem TOk.laid {r : RS} {S : SS} {sp : Nat → Sp} {u : Un} (h : TOk r) (hc : Corr S r sp) (hu : u.ok) (hm : MayR r u) : TOk (r.laid u) := by
  obtain ⟨A, B, eo, es, ep⟩ := hc.place hu hm
  have hmay : S.may u 1 = true := by rw [hc.may hu]; exact may_r.2 hm
  obtain ⟨_, _, _, _, fb⟩ := may_iff.1 hmay
  obtain ⟨hhi, hlo⟩ := hc.inv.placeHi hu fb
  rw [ep] at hhi hlo
  have L := laid1 r u
  have ok' := h.ok.laid hm
  obtain ⟨kl, km, k0⟩ := laid_kids r u
  have hsl : (r.laid u).l.length = r.l.length + 1 := L.len
  have nm : ∀ {v : Un}, ((v.lc = 0 ∧ v.lk = 0) ∨ r.find v.lc v.lk ≠ -1) → ((v.rc = 0 ∧ v.rk = 0) ∨ r.find v.rc v.rk ≠ -1) → (r.laid u).isL v = r.isL v ∧ ((r.laid u).node v).par = (r.node v).par := fun h1 h2 => node_more h.ok ok' (by omega) L.old h1 h2
  have fo : ∀ {c k : Int}, ((c = 0 ∧ k = 0) ∨ r.find c k ≠ -1) → (r.laid u).find c k = r.find c k := fun hf => find_old h.ok ok' (by omega) (fun x hx => (L.old x hx).1) hf
  have hmeu : ((r.laid u).nd r.l.length).u = u := by rw [L.me]; rfl
  have pl : ∀ x, x < r.l.length → (r.laid u).place (x : Int) = shP A.length (r.place (x : Int)) := fun x hx => place_more eo es x (by omega) (by have := (h.ok.inv.place_ge hx).1; omega)
  have pme : (r.laid u).place (r.l.length : Int) = (A.length : Int) := ok'.inv.place_at es
  have old : ∀ y, y < r.l.length → (r.laid u).isL ((r.laid u).nd y).u = r.isL (r.nd y).u := fun y hy => by
    rw [(L.old y hy).1]; exact (nm (h.ok.org hy).1 (h.ok.org hy).2).1
  have newL : (r.laid u).isL ((r.laid u).nd r.l.length).u = r.isL u := by rw [hmeu]; exact (nm hm.left hm.right).1
  have kidlt := h.ok.inv.kids
  refine ⟨ok', fun y hy => ?_, fun z hz y hy => ?_, fun z hz y hy => ?_, fun y hy => ?_, fun x t hx hf => ?_, fun x q hx hf => ?_⟩
  · rw [hsl] at hy
    by_cases hyl : y < r.l.length
    · rw [(L.old y hyl).2, (L.old y hyl).1, (nm (h.ok.org hyl).1 (h.ok.org hyl).2).2]; exact h.par y hyl
    · have : y = r.l.length := by omega
      subst this
      rw [hmeu, L.me, (nm hm.left hm.right).2]
  · rw [hsl] at hz
    rcases kl z hz y hy with ⟨hz', hy'⟩ | ⟨rfl, e⟩
    · rw [old y ((kidlt z hz').1 y hy')]; exact h.lf z hz' y hy'
    · rw [newL]; exact e
  · rw [hsl] at hz
    rcases km z hz y hy with ⟨hz', hy'⟩ | ⟨rfl, e⟩
    · rw [old y ((kidlt z hz').2 y hy')]; exact h.mr z hz' y hy'
    · rw [newL]; exact e
  · rcases k0 y hy with hy' | ⟨rfl, e⟩
    · rw [old y (h.ok.inv.root y hy')]; exact h.rt y hy'
    · rw [newL]; exact e
  · rw [hsl] at hx
    by_cases hxl : x < r.l.length
    · rw [(L.old x hxl).1, fo (h.ok.org hxl).1] at hf
      have ht := (RS.find_id hf).1
      rw [pl x hxl, pl t ht]
      exact shP_lt.2 (h.btwL x t hxl hf)
    · have : x = r.l.length := by omega
      subst this
      rw [hmeu, fo hm.left] at hf
      have ht := (RS.find_id hf).1
      rw [pl t ht, pme]
      have e1 := hc.find hu.lc hu.lk.1
      unfold RS.findP at e1
      rw [hf, if_neg (by omega)] at e1
      unfold shP
      rw [if_pos (by omega)]; omega
  · rw [hsl] at hx
    by_cases hxl : x < r.l.length
    · rw [(L.old x hxl).1, fo (h.ok.org hxl).2] at hf
      have hq := (RS.find_id hf).1
      rw [pl x hxl, pl q hq]
      exact shP_lt.2 (h.btwR x q hxl hf)
    · have : x = r.l.length := by omega
      subst this
      rw [hmeu, fo hm.right] at hf
      have hq := (RS.find_id hf).1
      rw [pl q hq, pme]
      have e0 : ¬ (u.rc = 0 ∧ u.rk = 0) := fun q0 => by rw [q0.1, q0.2, h.ok.find0] at hf; omega
      unfold SS.rightOf at hhi
      rw [if_neg e0, hc.find hu.rc hu.rk.1] at hhi
      unfold RS.findP at hhi
      rw [hf, if_neg (by omega)] at hhi
      unfold shP
      rw [if_neg (by omega)]; omega
/-- One stands ahead of the other. -/
def Bf (l : List Nat) (a b : Nat) : Prop := ∃ X Y, l = X ++ a :: Y ∧ b ∈ Y
theorem RInv.bf {r : RS} (h : RInv r) {a b : Nat} (ha : a < r.l.length) (hb : b < r.l.length) : Bf r.order a b ↔ r.place (a : Int) < r.place (b : Int) := by
  constructor
  · rintro ⟨X, Y, e, hy⟩
    obtain ⟨Y1, Y2, rfl⟩ := List.append_of_mem hy
    have e2 : r.order = (X ++ a :: Y1) ++ b :: Y2 := by rw [e]; simp
    rw [h.place_at e, h.place_at e2]
    simp only [List.length_append, List.length_cons]
    omega
  · intro hlt
    obtain ⟨i, hi, i1, i2⟩ := h.place_ok a ha
    obtain ⟨j, hj, j1, j2⟩ := h.place_ok b hb
    have hij : i < j := by omega
    refine ⟨r.order.take i, r.order.drop (i + 1), ?_, ?_⟩
    · rw [← i1]
      have := List.take_append_drop i r.order
      rw [List.drop_eq_getElem_cons hi] at this
      exact this.symm
    · refine List.mem_iff_getElem.2 ⟨j - (i + 1), by rw [List.length_drop]; omega, ?_⟩
      rw [List.getElem_drop]
      have e : i + 1 + (j - (i + 1)) = j := by omega
      simp only [e]
      exact j1
theorem Bf.map {l : List Nat} {a b : Nat} (f : Nat → Nat) : Bf l a b → Bf (l.map f) (f a) (f b) := by
  rintro ⟨X, Y, rfl, hy⟩
  exact ⟨X.map f, Y.map f, by simp, List.mem_map.2 ⟨b, hy, rfl⟩⟩
theorem Bf.of_filter {l : List Nat} {a b : Nat} {p : Nat → Bool} : Bf (l.filter p) a b → Bf l a b := by
  rintro ⟨X, Y, e, hy⟩
  obtain ⟨l1, l2, rfl, _, e2⟩ := List.filter_eq_append_iff.1 e
  obtain ⟨m1, m2, rfl, _, _, e3⟩ := List.filter_eq_cons_iff.1 e2
  rw [← e3] at hy
  exact ⟨l1 ++ m1, m2, by simp, (List.mem_filter.1 hy).1⟩
/-- Is a number one that f gives? -/
def inI (f : Nat → Nat) (n : Nat) (y : Nat) : Bool := (List.range n).any fun x => f x == y
theorem inI_iff {f : Nat → Nat} {n y : Nat} : inI f n y = true ↔ ∃ x, x < n ∧ f x = y := by
  unfold inI
  rw [List.any_eq_true]
  constructor
  · rintro ⟨x, hx, e⟩
    exact ⟨x, List.mem_range.1 hx, by simpa using e⟩
  · rintro ⟨x, hx, e⟩
    exact ⟨x, List.mem_range.2 hx, by simpa using e⟩
/-- Each node of r2 is one of r1's, by its unit. -/
def Img (r1 r2 : RS) (f : Nat → Nat) : Prop := ∀ x, x < r2.l.length → f x < r1.l.length ∧ (r1.nd (f x)).u = (r2.nd x).u
section
variable {r1 r2 : RS} {f : Nat → Nat}
theorem Img.inj (h : Img r1 r2 f) (h2 : ROk r2) {x y : Nat} (hx : x < r2.l.length) (hy : y < r2.l.length) (e : f x = f y) : x = y := by
  have e1 := (h x hx).2
  have e2 := (h y hy).2
  rw [e] at e1
  exact h2.uniq x y hx hy (by rw [← e1, e2]) (by rw [← e1, e2])
theorem Img.find (h : Img r1 r2 f) (h1 : ROk r1) {c k : Int} {x : Nat} (hx : r2.find c k = (x : Int)) : r1.find c k = (f x : Int) := by
  obtain ⟨f0, f1, f2⟩ := RS.find_id hx
  obtain ⟨a, b⟩ := h x f0
  exact h1.find_at a (by rw [b]; exact f1) (by rw [b]; exact f2)
/-- A number of r2's as one of r1's. -/
def phI (f : Nat → Nat) (i : Int) : Int := if i < 0 then -1 else (f i.toNat : Int)
theorem Img.findI (h : Img r1 r2 f) (h1 : ROk r1) (h2 : ROk r2) {c k : Int} (hf : (c = 0 ∧ k = 0) ∨ r2.find c k ≠ -1) : r1.find c k = phI f (r2.find c k) := by
  unfold phI
  by_cases e : r2.find c k = -1
  · rcases hf with ⟨rfl, rfl⟩ | hf
    · rw [if_pos (by omega), h1.find0]
    · exact absurd e hf
  · have hb := RS.find_lt (r := r2) c k
    obtain ⟨y, hy⟩ := Int.eq_ofNat_of_zero_le (show 0 ≤ r2.find c k by omega)
    rw [hy, if_neg (by omega), Int.toNat_natCast]
    exact h.find h1 hy
theorem anc_iff' {r : RS} (hI : RInv r) {t x : Nat} (hx : x < r.l.length) : r.anc (t : Int) x ↔ (r.nd x).par = (t : Int) ∨ ∃ p : Nat, (r.nd x).par = (p : Int) ∧ r.anc (t : Int) p := by
  constructor
  · rintro ⟨g, hg⟩
    cases g with
    | zero => simp [RS.ups] at hg
    | succ g =>
      unfold RS.ups at hg
      by_cases hn : (r.nd x).par < 0
      · rw [if_pos hn] at hg; cases hg
      · rw [if_neg hn, Bool.or_eq_true, beq_iff_eq] at hg
        rcases hg with hg | hg
        · exact .inl hg
        · obtain ⟨p, hp⟩ := Int.eq_ofNat_of_zero_le (show 0 ≤ (r.nd x).par by omega)
          rw [hp, Int.toNat_natCast] at hg
          exact .inr ⟨p, hp, g, hg⟩
  · rintro (h | ⟨p, hp, h⟩)
    · exact anc_par h (by omega)
    · exact anc_step hp h
/-- What is above what: the same in both. -/
theorem Img.anc (h : Img r1 r2 f) (h1 : ROk r1) (h2 : ROk r2) {n : Nat} (hP : ∀ x, x < n → x < r2.l.length → (r1.nd (f x)).par = phI f (r2.nd x).par) {t : Nat} (ht : t < r2.l.length) : ∀ x, x < n → x < r2.l.length → (r2.anc (t : Int) x ↔ r1.anc (f t : Int) (f x)) := by
  intro x
  induction x using Nat.strongRecOn with
  | ind x ih =>
    intro hxn hx
    have hp := hP x hxn hx
    have hup := h2.inv.up x hx
    rw [anc_iff' h2.inv hx, anc_iff' h1.inv (h x hx).1]
    by_cases hn : (r2.nd x).par < 0
    · have : (r1.nd (f x)).par = -1 := by rw [hp]; unfold phI; rw [if_pos hn]
      constructor
      · rintro (e | ⟨p, e, _⟩) <;> omega
      · rintro (e | ⟨p, e, _⟩) <;> omega
    · obtain ⟨p, hpp⟩ := Int.eq_ofNat_of_zero_le (show 0 ≤ (r2.nd x).par by omega)
      have e1 : (r1.nd (f x)).par = (f p : Int) := by rw [hp, hpp]; unfold phI; rw [if_neg (by omega), Int.toNat_natCast]
      have ih' := ih p (by omega) (by omega) (by omega)
      rw [hpp, e1]
      constructor
      · rintro (e | ⟨p', e, q⟩)
        · have : p = t := by omega
          subst this; exact .inl rfl
        · have : p' = p := by omega
          subst this; exact .inr ⟨f p', rfl, ih'.1 q⟩
      · rintro (e | ⟨p', e, q⟩)
        · have : p = t := h.inj h2 (by omega) ht (by omega)
          subst this; exact .inl rfl
        · have : p' = f p := by omega
          subst this; exact .inr ⟨p, rfl, ih'.2 q⟩
/-- Parents and sides are the same in both. -/
theorem Img.par (h : Img r1 r2 f) (h1 : TOk r1) (h2 : TOk r2) : ∀ n x, x < n → x < r2.l.length → (r1.nd (f x)).par = phI f (r2.nd x).par ∧ r1.isL (r2.nd x).u = r2.isL (r2.nd x).u
  | 0, x, hn, _ => absurd hn (Nat.not_lt_zero _)
  | n + 1, x, hn, hx => by
    by_cases hlt : x < n
    · exact h.par h1 h2 n x hlt hx
    · have hxn : x = n := by omega
      subst hxn
      have ih : ∀ y, y < x → y < r2.l.length → (r1.nd (f y)).par = phI f (r2.nd y).par := fun y hy hy' => (h.par h1 h2 x y hy hy').1
      obtain ⟨oL, oR⟩ := h2.ok.org hx
      have eL := h.findI h1.ok h2.ok oL
      have eR := h.findI h1.ok h2.ok oR
      have hsd : r1.isL (r2.nd x).u = r2.isL (r2.nd x).u := by
        have key : r1.isL (r2.nd x).u = true ↔ r2.isL (r2.nd x).u = true := by
          rw [h1.ok.isL_iff, h2.ok.isL_iff]
          have fwd : ∀ q : Nat, r2.find (r2.nd x).u.rc (r2.nd x).u.rk = (q : Int) → q < x := fun q hq => by
            rcases h2.ok.orgR x hx with e | ⟨y, hy, e1, e2⟩
            · rw [e.1, e.2, h2.ok.find0] at hq; omega
            · have := h2.ok.find_at (x := y) (by omega) e1 e2
              omega
          constructor
          · rintro ⟨q1, hq1, h3⟩
            rw [eR] at hq1
            unfold phI at hq1
            by_cases hn0 : r2.find (r2.nd x).u.rc (r2.nd x).u.rk < 0
            · rw [if_pos hn0] at hq1; omega
            · rw [if_neg hn0] at hq1
              obtain ⟨q, hq⟩ := Int.eq_ofNat_of_zero_le (show 0 ≤ r2.find (r2.nd x).u.rc (r2.nd x).u.rk by omega)
              rw [hq, Int.toNat_natCast] at hq1
              have hqe : f q = q1 := by omega
              subst hqe
              refine ⟨q, hq, h3.imp (fun a => a) fun h3 => ?_⟩
              by_cases hl : (r2.nd x).u.lc = 0 ∧ (r2.nd x).u.lk = 0
              · rw [hl.1, hl.2, h1.ok.find0] at h3
                obtain ⟨g, hg⟩ := h3
                have : ∀ (g : Nat) (up : Int), r1.ups (-1) g up = false := fun g => by
                  induction g with
                  | zero => intro up; rfl
                  | succ g ih => 
                    intro up
                    unfold RS.ups
                    split
                    · rfl
                    · rw [ih, Bool.or_false, beq_eq_false_iff_ne]; omega
                rw [this] at hg; cases hg
              · have hb := RS.find_lt (r := r2) (r2.nd x).u.lc (r2.nd x).u.lk
                have hne := oL.resolve_left hl
                obtain ⟨t, ht⟩ := Int.eq_ofNat_of_zero_le (show 0 ≤ r2.find (r2.nd x).u.lc (r2.nd x).u.lk by omega)
                rw [eL, ht] at h3
                unfold phI at h3
                rw [if_neg (by omega), Int.toNat_natCast] at h3
                rw [ht]
                exact (h.anc h1.ok h2.ok ih (RS.find_id ht).1 q (fwd q hq) (RS.find_id hq).1).2 h3
          · rintro ⟨q, hq, h3⟩
            refine ⟨f q, h.find h1.ok hq, ?_⟩
            by_cases hl : (r2.nd x).u.lc = 0 ∧ (r2.nd x).u.lk = 0
            · exact .inl hl
            · have h3 := h3.resolve_left hl
              have hb := RS.find_lt (r := r2) (r2.nd x).u.lc (r2.nd x).u.lk
              have hne := oL.resolve_left hl
              obtain ⟨t, ht⟩ := Int.eq_ofNat_of_zero_le (show 0 ≤ r2.find (r2.nd x).u.lc (r2.nd x).u.lk by omega)
              rw [ht] at h3
              rw [h.find h1.ok ht]
              exact .inr ((h.anc h1.ok h2.ok ih (RS.find_id ht).1 q (fwd q hq) (RS.find_id hq).1).1 h3)
        cases a : r1.isL (r2.nd x).u <;> cases b : r2.isL (r2.nd x).u <;> simp_all
      refine ⟨?_, hsd⟩
      rw [h1.par _ (h x hx).1, (h x hx).2, h2.par x hx]
      show (if r1.isL _ then _ else _) = phI f (if r2.isL _ then _ else _)
      rw [hsd]
      split
      · exact eR
      · exact eL
end
/-- Two sorted lists of the same members. -/
theorem sorted_eq {R : Nat → Nat → Prop} (ha : ∀ a b, R a b → ¬ R b a) : ∀ {l k : List Nat}, l.Pairwise R → k.Pairwise R → (∀ x, x ∈ l ↔ x ∈ k) → l = k
  | [], [], _, _, _ => rfl
  | [], y :: k, _, _, h => ((h y).2 (by simp) |> List.not_mem_nil).elim
  | x :: l, [], _, _, h => ((h x).1 (by simp) |> List.not_mem_nil).elim
  | x :: l, y :: k, hl, hk, h => by
    obtain ⟨l1, l2⟩ := List.pairwise_cons.1 hl
    obtain ⟨k1, k2⟩ := List.pairwise_cons.1 hk
    have nr : ∀ a, ¬ R a a := fun a q => ha a a q q
    have hxy : x = y := by
      rcases List.mem_cons.1 ((h x).1 (by simp)) with e | e
      · exact e
      · rcases List.mem_cons.1 ((h y).2 (by simp)) with e' | e'
        · exact e'.symm
        · exact absurd (k1 x e) (ha _ _ (l1 y e'))
    subst hxy
    rw [sorted_eq ha l2 k2 fun z => ?_]
    constructor
    · intro hz
      rcases List.mem_cons.1 ((h z).1 (List.mem_cons_of_mem _ hz)) with rfl | e
      · exact absurd (l1 z hz) (nr z)
      · exact e
    · intro hz
      rcases List.mem_cons.1 ((h z).2 (List.mem_cons_of_mem _ hz)) with rfl | e
      · exact absurd (k1 z hz) (nr z)
      · exact e
end Go.Proofs.Ytnbphdmpbjahhaa

/- The document's tree of units (quireref9), mathematics alone: units that are inserted in another order stand in the same one. -/
namespace Go.Proofs.Ytnbphdmpbjahhaa
set_option linter.unusedVariables false
set_option linter.unusedSimpArgs false

section
variable {r1 r2 : RS} {f : Nat → Nat}
theorem phI_eq {f : Nat → Nat} {i : Int} {z : Nat} (h : phI f i = (z : Int)) : ∃ p : Nat, i = (p : Int) ∧ f p = z := by
  unfold phI at h
  by_cases hn : i < 0
  · rw [if_pos hn] at h; omega
  · rw [if_neg hn] at h
    obtain ⟨p, hp⟩ := Int.eq_ofNat_of_zero_le (show 0 ≤ i by omega)
    rw [hp, Int.toNat_natCast] at h
    exact ⟨p, hp, by omega⟩
/-- The children of a node: those of r1 that r2 has. -/
theorem Img.kids (h : Img r1 r2 f) (h1 : TOk r1) (h2 : TOk r2) {z : Nat} (hz : z < r2.l.length) : (∀ y, y < r2.l.length → (y ∈ (r2.nd z).lefts ↔ f y ∈ (r1.nd (f z)).lefts)) ∧ ∀ y, y < r2.l.length → (y ∈ (r2.nd z).more ↔ f y ∈ (r1.nd (f z)).more) := by
  have hP : ∀ x, x < r2.l.length → (r1.nd (f x)).par = phI f (r2.nd x).par ∧ r1.isL (r1.nd (f x)).u = r2.isL (r2.nd x).u := fun x hx => by
    rw [(h x hx).2]; exact h.par h1 h2 (x + 1) x (Nat.lt_succ_self _) hx
  have hfz := (h z hz).1
  have up : ∀ y, y < r2.l.length → (r2.nd y).par = (z : Int) → (r1.nd (f y)).par = (f z : Int) := fun y hy e => by
    rw [(hP y hy).1, e]; unfold phI; rw [if_neg (by omega), Int.toNat_natCast]
  have dn : ∀ y, y < r2.l.length → (r1.nd (f y)).par = (f z : Int) → (r2.nd y).par = (z : Int) := fun y hy e => by
    rw [(hP y hy).1] at e
    obtain ⟨p, hp, e2⟩ := phI_eq e
    have := h2.ok.inv.up y hy
    rw [hp, h.inj h2.ok (x := p) (y := z) (by omega) hz e2]
  refine ⟨fun y hy => ⟨fun hm => ?_, fun hm => ?_⟩, fun y hy => ⟨fun hm => ?_, fun hm => ?_⟩⟩
  · have e1 := up y hy (h2.ok.kidL z hz y hm).1
    have e2 := h2.lf z hz y hm
    rw [← (hP y hy).2] at e2
    rcases h1.ok.conv (f y) (h y hy).1 with ⟨q, _⟩ | ⟨z1, hz1, q, hor⟩
    · omega
    · have : z1 = f z := by omega
      subst this
      rcases hor with hor | hor
      · exact hor
      · rw [h1.mr _ hfz _ hor] at e2; cases e2
  · have e1 := dn y hy (h1.ok.kidL _ hfz _ hm).1
    have e2 := h1.lf _ hfz _ hm
    rw [(hP y hy).2] at e2
    rcases h2.ok.conv y hy with ⟨q, _⟩ | ⟨z1, hz1, q, hor⟩
    · omega
    · have : z1 = z := by omega
      subst this
      rcases hor with hor | hor
      · exact hor
      · rw [h2.mr _ hz _ hor] at e2; cases e2
  · have e1 := up y hy (h2.ok.kidM z hz y hm)
    have e2 := h2.mr z hz y hm
    rw [← (hP y hy).2] at e2
    rcases h1.ok.conv (f y) (h y hy).1 with ⟨q, _⟩ | ⟨z1, hz1, q, hor⟩
    · omega
    · have : z1 = f z := by omega
      subst this
      rcases hor with hor | hor
      · rw [h1.lf _ hfz _ hor] at e2; cases e2
      · exact hor
  · have e1 := dn y hy (h1.ok.kidM _ hfz _ hm)
    have e2 := h1.mr _ hfz _ hm
    rw [(hP y hy).2] at e2
    rcases h2.ok.conv y hy with ⟨q, _⟩ | ⟨z1, hz1, q, hor⟩
    · omega
    · have : z1 = z := by omega
      subst this
      rcases hor with hor | hor
      · rw [h2.lf _ hz _ hor] at e2; cases e2
      · exact hor
theorem Img.root (h : Img r1 r2 f) (h1 : TOk r1) (h2 : TOk r2) : ∀ y, y < r2.l.length → (y ∈ r2.more ↔ f y ∈ r1.more) := fun y hy => by
  have hP := (h.par h1 h2 (y + 1) y (Nat.lt_succ_self _) hy).1
  constructor
  · intro hm
    have e := h2.ok.kid0 y hm
    have e1 : (r1.nd (f y)).par = -1 := by rw [hP, e]; rfl
    rcases h1.ok.conv (f y) (h y hy).1 with ⟨_, q⟩ | ⟨z1, hz1, q, _⟩
    · exact q
    · omega
  · intro hm
    have e := h1.ok.kid0 _ hm
    rcases h2.ok.conv y hy with ⟨_, q⟩ | ⟨z1, hz1, q, _⟩
    · exact q
    · rw [hP, q] at e
      unfold phI at e
      rw [if_neg (by omega), Int.toNat_natCast] at e
      omega
theorem lessI_asymm {a b c d : Int} : lessI a b c d = true → ¬ lessI c d a b = true := by
  rw [lessI_iff, lessI_iff]; omega
theorem RS.fart_asymm (r : RS) {a b : Un} : r.fart a b = true → ¬ r.fart b a = true := by
  rw [RS.fart_iff, RS.fart_iff]; omega
/-- The lists of children, where the right ones are sorted alike. -/
theorem Img.lists (h : Img r1 r2 f) (h1 : TOk r1) (h2 : TOk r2) (hf : ∀ a b, a < r2.l.length → b < r2.l.length → r2.farther a b = r1.farther (f a) (f b)) : (∀ z, z < r2.l.length → (r2.nd z).lefts.map f = (r1.nd (f z)).lefts.filter (inI f r2.l.length) ∧ (r2.nd z).more.map f = (r1.nd (f z)).more.filter (inI f r2.l.length)) ∧ r2.more.map f = r1.more.filter (inI f r2.l.length) := by
  have mem : ∀ {l k : List Nat}, (∀ y ∈ l, y < r2.l.length) → (∀ y, y < r2.l.length → (y ∈ l ↔ f y ∈ k)) → ∀ x, x ∈ l.map f ↔ x ∈ k.filter (inI f r2.l.length) := fun {l k} hl hk x => by
    rw [List.mem_map, List.mem_filter, inI_iff]
    constructor
    · rintro ⟨y, hy, rfl⟩
      exact ⟨(hk y (hl y hy)).1 hy, y, hl y hy, rfl⟩
    · rintro ⟨hx, y, hy, rfl⟩
      exact ⟨y, (hk y hy).2 hx, rfl⟩
  have srt : ∀ {l : List Nat}, (∀ y ∈ l, y < r2.l.length) → l.Pairwise (fun a b => r2.farther a b = true) → (l.map f).Pairwise (fun a b => r1.farther a b = true) := fun {l} hl hs => by
    rw [List.pairwise_map]
    exact hs.imp_of_mem fun {a b} ha hb q => by rw [← hf a b (hl a ha) (hl b hb)]; exact q
  refine ⟨fun z hz => ⟨?_, ?_⟩, ?_⟩
  · refine sorted_eq (R := fun a b => lessI (r1.nd a).u.c (r1.nd a).u.k (r1.nd b).u.c (r1.nd b).u.k = true) (fun a b => lessI_asymm) ?_ ((h1.ok.sortL _ (h z hz).1).filter _) (mem (h2.ok.inv.kids z hz).1 (h.kids h1 h2 hz).1)
    rw [List.pairwise_map]
    exact (h2.ok.sortL z hz).imp_of_mem fun {a b} ha hb q => by
      rw [(h a ((h2.ok.inv.kids z hz).1 a ha)).2, (h b ((h2.ok.inv.kids z hz).1 b hb)).2]; exact q
  · exact sorted_eq (R := fun a b => r1.farther a b = true) (fun a b => RS.fart_asymm r1) (srt (h2.ok.inv.kids z hz).2 (h2.ok.sortM z hz)) ((h1.ok.sortM _ (h z hz).1).filter _) (mem (h2.ok.inv.kids z hz).2 (h.kids h1 h2 hz).2)
  · exact sorted_eq (R := fun a b => r1.farther a b = true) (fun a b => RS.fart_asymm r1) (srt h2.ok.inv.root h2.ok.sort0) (h1.ok.sort0.filter _) (mem h2.ok.inv.root (h.root h1 h2))
/-- A child that r2 has has its parent there. -/
theorem Img.closed (h : Img r1 r2 f) (h1 : TOk r1) (h2 : TOk r2) {z y : Nat} (hz : z < r1.l.length) (hy : y ∈ (r1.nd z).lefts ∨ y ∈ (r1.nd z).more) (hi : inI f r2.l.length y = true) : inI f r2.l.length z = true := by
  obtain ⟨x, hx, rfl⟩ := inI_iff.1 hi
  have e : (r1.nd (f x)).par = (z : Int) := by
    rcases hy with hy | hy
    · exact (h1.ok.kidL z hz _ hy).1
    · exact h1.ok.kidM z hz _ hy
  rw [(h.par h1 h2 (x + 1) x (Nat.lt_succ_self _) hx).1] at e
  obtain ⟨p, hp, e2⟩ := phI_eq e
  have := h2.ok.inv.up x hx
  exact inI_iff.2 ⟨p, by omega, e2⟩
theorem Img.none (h : Img r1 r2 f) (h1 : TOk r1) (h2 : TOk r2) : ∀ (g : Nat) (l : List Nat), (∀ y ∈ l, y < r1.l.length ∧ inI f r2.l.length y = false) → (r1.walk g l).filter (inI f r2.l.length) = []
  | 0, l, _ => rfl
  | g + 1, [], _ => rfl
  | g + 1, x :: l, hl => by
    obtain ⟨hx, hn⟩ := hl x (by simp)
    have kid : ∀ y, y ∈ (r1.nd x).lefts ∨ y ∈ (r1.nd x).more → y < r1.l.length ∧ inI f r2.l.length y = false := fun y hy => by
      refine ⟨by rcases hy with hy | hy; exact (h1.ok.inv.kids x hx).1 y hy; exact (h1.ok.inv.kids x hx).2 y hy, ?_⟩
      cases e : inI f r2.l.length y with
      | false => rfl
      | true => rw [h.closed h1 h2 hx hy e] at hn; cases hn
    rw [RS.walk_cons, List.filter_append, List.filter_append, List.filter_cons, hn, h.none h1 h2 g _ fun y hy => kid y (.inl hy), h.none h1 h2 (g + 1) l fun y hy => hl y (List.mem_cons_of_mem _ hy)]
    simp [h.none h1 h2 g _ fun y hy => kid y (.inr hy)]
theorem Img.walk (h : Img r1 r2 f) (h1 : TOk r1) (h2 : TOk r2) (hl : (∀ z, z < r2.l.length → (r2.nd z).lefts.map f = (r1.nd (f z)).lefts.filter (inI f r2.l.length) ∧ (r2.nd z).more.map f = (r1.nd (f z)).more.filter (inI f r2.l.length))) : ∀ (g : Nat) (k l : List Nat), (∀ y ∈ k, y < r2.l.length) → (∀ y ∈ l, y < r1.l.length) → k.map f = l.filter (inI f r2.l.length) → (r2.walk g k).map f = (r1.walk g l).filter (inI f r2.l.length)
  | 0, k, l, _, _, _ => rfl
  | g + 1, k, [], hk, _, e => by
    have : k = [] := by simpa using e
    subst this; rfl
  | g + 1, k, x :: l, hk, hl1, e => by
    have hx := hl1 x (by simp)
    cases hn : inI f r2.l.length x with
    | false =>
      rw [List.filter_cons, hn] at e
      have ih := h.walk h1 h2 hl (g + 1) k l hk (fun y hy => hl1 y (List.mem_cons_of_mem _ hy)) e
      rw [ih, show x :: l = [x] ++ l from rfl, RS.walk_append, List.filter_append, h.none h1 h2 (g + 1) [x] fun y hy => by simp at hy; subst hy; exact ⟨hx, hn⟩]
      rfl
    | true =>
      rw [List.filter_cons, hn, if_pos rfl] at e
      cases k with
      | nil => simp at e
      | cons y k =>
        rw [List.map_cons, List.cons.injEq] at e
        obtain ⟨e1, e2⟩ := e
        subst e1
        have hy := hk y (by simp)
        have ih := h.walk h1 h2 hl (g + 1) k l (fun z hz => hk z (List.mem_cons_of_mem _ hz)) (fun z hz => hl1 z (List.mem_cons_of_mem _ hz)) e2
        have iL := h.walk h1 h2 hl g _ _ (h2.ok.inv.kids y hy).1 (h1.ok.inv.kids _ hx).1 (hl y hy).1
        have iM := h.walk h1 h2 hl g _ _ (h2.ok.inv.kids y hy).2 (h1.ok.inv.kids _ hx).2 (hl y hy).2
        rw [RS.walk_cons, RS.walk_cons, List.map_append, List.map_append, List.map_cons, List.filter_append, List.filter_append, List.filter_cons, hn, if_pos rfl, ih, iL, iM]
theorem RS.deep_succ (r : RS) : ∀ (g : Nat) (l : List Nat), r.Deep g l → r.Deep (g + 1) l
  | 0, l, h => by
    have : l = [] := h
    subst this
    exact fun x hx => (List.not_mem_nil hx).elim
  | g + 1, l, h => fun x hx => by
    obtain ⟨a, b, c⟩ := h x hx
    exact ⟨a, RS.deep_succ r g _ b, RS.deep_succ r g _ c⟩
theorem RS.walk_more (r : RS) : ∀ (k g : Nat) (l : List Nat), r.Deep g l → r.Deep (g + k) l ∧ r.walk (g + k) l = r.walk g l
  | 0, g, l, h => ⟨h, rfl⟩
  | k + 1, g, l, h => by
    obtain ⟨a, b⟩ := RS.walk_more r k g l h
    refine ⟨RS.deep_succ r _ _ a, ?_⟩
    rw [← Nat.add_assoc, RS.walk_fuel r _ _ a, b]
/-- The order of r2 is that of r1, of those that it has. -/
theorem Img.order (h : Img r1 r2 f) (h1 : TOk r1) (h2 : TOk r2) (hf : ∀ a b, a < r2.l.length → b < r2.l.length → r2.farther a b = r1.farther (f a) (f b)) : r2.order.map f = r1.order.filter (inI f r2.l.length) := by
  obtain ⟨hl, hr⟩ := h.lists h1 h2 hf
  have e1 := (RS.walk_more r1 r2.l.length _ _ h1.ok.inv.deep).2
  have e2 := (RS.walk_more r2 r1.l.length _ _ h2.ok.inv.deep).2
  rw [h1.ok.inv.ord, h2.ok.inv.ord, ← e1, ← e2, Nat.add_comm r1.l.length]
  exact h.walk h1 h2 hl _ _ _ h2.ok.inv.root h1.ok.inv.root hr
/-- r2 has some of r1's units, in r1's order. -/
structure Sub (r1 r2 : RS) (f : Nat → Nat) : Prop where
  img : Img r1 r2 f
  ord : r2.order.map f = r1.order.filter (inI f r2.l.length)
theorem Sub.lt' (h : Sub r1 r2 f) (h1 : TOk r1) (h2 : TOk r2) {a b : Nat} (ha : a < r2.l.length) (hb : b < r2.l.length) (hlt : r2.place (a : Int) < r2.place (b : Int)) : r1.place (f a : Int) < r1.place (f b : Int) := by
  have := ((h2.ok.inv.bf ha hb).2 hlt).map f
  rw [h.ord] at this
  exact (h1.ok.inv.bf (h.img a ha).1 (h.img b hb).1).1 this.of_filter
theorem Sub.lt (h : Sub r1 r2 f) (h1 : TOk r1) (h2 : TOk r2) {a b : Nat} (ha : a < r2.l.length) (hb : b < r2.l.length) : r2.place (a : Int) < r2.place (b : Int) ↔ r1.place (f a : Int) < r1.place (f b : Int) := by
  refine ⟨h.lt' h1 h2 ha hb, fun q => ?_⟩
  refine Decidable.byContradiction fun hn => ?_
  by_cases e : r2.place (a : Int) = r2.place (b : Int)
  · obtain ⟨i, hi, i1, i2⟩ := h2.ok.inv.place_ok a ha
    obtain ⟨j, hj, j1, j2⟩ := h2.ok.inv.place_ok b hb
    have hij : i = j := by omega
    subst hij
    have : a = b := by rw [← i1, ← j1]
    subst this
    omega
  · have := h.lt' h1 h2 hb ha (by omega)
    omega
theorem Sub.fart (h : Sub r1 r2 f) (h1 : TOk r1) (h2 : TOk r2) {v w : Un} (hv : RgtOk r2 v) (hw : RgtOk r2 w) : r2.fart v w = r1.fart v w := by
  have far : ∀ {v : Un}, RgtOk r2 v → (r2.farU v = (r2.l.length : Int) + 1 ∧ r1.farU v = (r1.l.length : Int) + 1) ∨ ∃ q : Nat, q < r2.l.length ∧ r2.farU v = r2.place (q : Int) ∧ r1.farU v = r1.place (f q : Int) := fun {v} hv => by
    unfold RS.farU RS.far
    by_cases e : v.rc = 0 ∧ v.rk = 0
    · left
      rw [if_pos e, if_pos e, h1.ok.inv.len, h2.ok.inv.len]
      exact ⟨rfl, rfl⟩
    · right
      rw [if_neg e, if_neg e]
      have hne := hv.resolve_left e
      have hb := RS.find_lt (r := r2) v.rc v.rk
      obtain ⟨q, hq⟩ := Int.eq_ofNat_of_zero_le (show 0 ≤ r2.find v.rc v.rk by omega)
      have hq1 := h.img.find h1.ok hq
      refine ⟨q, (RS.find_id hq).1, ?_, ?_⟩
      · unfold RS.findP; rw [if_neg (by omega), hq]
      · unfold RS.findP; rw [if_neg (by omega), hq1]
  have key : r2.fart v w = true ↔ r1.fart v w = true := by
    rw [RS.fart_iff, RS.fart_iff]
    rcases far hv with ⟨a1, a2⟩ | ⟨q, a0, a1, a2⟩ <;> rcases far hw with ⟨b1, b2⟩ | ⟨p, b0, b1, b2⟩
    · rw [a1, a2, b1, b2]; omega
    · have := h2.ok.inv.place_ge b0
      have := h1.ok.inv.place_ge (h.img p b0).1
      rw [a1, a2, b1, b2]; omega
    · have := h2.ok.inv.place_ge a0
      have := h1.ok.inv.place_ge (h.img q a0).1
      rw [a1, a2, b1, b2]; omega
    · have e1 := h.lt h1 h2 a0 b0
      have e2 := h.lt h1 h2 b0 a0
      rw [a1, a2, b1, b2]; omega
  cases a : r2.fart v w <;> cases b : r1.fart v w <;> simp_all
/-- One unit more of r1's. -/
theorem Sub.step {S : SS} {sp : Nat → Sp} (h : Sub r1 r2 f) (h1 : TOk r1) (h2 : TOk r2) (hc : Corr S r2 sp) {y : Nat} (hy : y < r1.l.length) (hu : (r1.nd y).u.ok) (hnew : r2.find (r1.nd y).u.c (r1.nd y).u.k = -1) (hl : ((r1.nd y).u.lc = 0 ∧ (r1.nd y).u.lk = 0) ∨ r2.find (r1.nd y).u.lc (r1.nd y).u.lk ≠ -1) (hr : ((r1.nd y).u.rc = 0 ∧ (r1.nd y).u.rk = 0) ∨ r2.find (r1.nd y).u.rc (r1.nd y).u.rk ≠ -1) :
    MayR r2 (r1.nd y).u ∧ TOk (r2.laid (r1.nd y).u) ∧ ∃ g, Sub r1 (r2.laid (r1.nd y).u) g := by
  have hm : MayR r2 (r1.nd y).u := by
    refine ⟨(h1.ok.id y hy).1, (h1.ok.id y hy).2, hnew, hl, hr, fun q1 q2 => ?_⟩
    have b1 := RS.find_lt (r := r2) (r1.nd y).u.lc (r1.nd y).u.lk
    have b2 := RS.find_lt (r := r2) (r1.nd y).u.rc (r1.nd y).u.rk
    obtain ⟨t, ht⟩ := Int.eq_ofNat_of_zero_le (show 0 ≤ r2.find (r1.nd y).u.lc (r1.nd y).u.lk by omega)
    obtain ⟨q, hq⟩ := Int.eq_ofNat_of_zero_le (show 0 ≤ r2.find (r1.nd y).u.rc (r1.nd y).u.rk by omega)
    rw [ht, hq, h.lt h1 h2 (RS.find_id ht).1 (RS.find_id hq).1]
    have := h1.btwL y _ hy (h.img.find h1.ok ht)
    have := h1.btwR y _ hy (h.img.find h1.ok hq)
    omega
  have h2' := h2.laid hc hu hm
  obtain ⟨A, B, eo, es, ep⟩ := hc.place hu hm
  have L := laid1 r2 (r1.nd y).u
  have hus := us_laid L
  have hlen : (r2.laid (r1.nd y).u).l.length = r2.l.length + 1 := L.len
  have hmeu : ((r2.laid (r1.nd y).u).nd r2.l.length).u = (r1.nd y).u := by rw [L.me]; rfl
  refine ⟨hm, h2', fun x => if x = r2.l.length then y else f x, ?_⟩
  have hi : Img r1 (r2.laid (r1.nd y).u) (fun x => if x = r2.l.length then y else f x) := fun x hx => by
    show (if x = r2.l.length then y else f x) < _ ∧ (r1.nd (if x = r2.l.length then y else f x)).u = _
    rw [hlen] at hx
    by_cases e : x = r2.l.length
    · rw [if_pos e, e, hmeu]; exact ⟨hy, rfl⟩
    · rw [if_neg e, (L.old x (by omega)).1]; exact h.img x (by omega)
  have hR : ∀ x, x < r2.l.length + 1 → RgtOk r2 ((r2.laid (r1.nd y).u).nd x).u := fun x hx => by
    by_cases e : x = r2.l.length
    · rw [e, hmeu]; exact hm.right
    · rw [(L.old x (by omega)).1]; exact h2.ok.rgt x (by omega)
  refine ⟨hi, hi.order h1 h2' fun a b ha hb => ?_⟩
  rw [hlen] at ha hb
  rw [RS.farther_eq, RS.farther_eq, fart_more h2.ok.inv eo es hus (hR a ha) (hR b hb), h.fart h1 h2 (hR a ha) (hR b hb), (hi a (by omega)).2, (hi b (by omega)).2]
theorem Sub.zero : Sub r1 .zero f := ⟨fun x h => absurd h (Nat.not_lt_zero _), by
  have : ∀ y, inI f 0 y = false := fun y => rfl
  show [] = List.filter (inI f 0) r1.order
  symm
  rw [List.filter_eq_nil_iff]
  intro y _
  rw [this]; simp⟩
/-- r2 has them all: the same units in the same order. -/
theorem Sub.full (h : Sub r1 r2 f) (h1 : TOk r1) (h2 : TOk r2) (hl : r1.l.length ≤ r2.l.length) : r2.order.map (fun x => (r2.nd x).u) = r1.order.map fun x => (r1.nd x).u := by
  have e1 : r2.order.map (fun x => (r2.nd x).u) = (r2.order.map f).map fun x => (r1.nd x).u := by
    rw [List.map_map]
    exact List.map_congr_left fun x hx => ((h.img x (h2.ok.inv.lt x hx)).2).symm
  rw [e1, h.ord]
  have hlen : (r1.order.filter (inI f r2.l.length)).length = r2.l.length := by rw [← h.ord, List.length_map, h2.ok.inv.len]
  have hle := List.length_filter_le (inI f r2.l.length) r1.order
  rw [h1.ok.inv.len] at hle
  have : r1.order.filter (inI f r2.l.length) = r1.order := by
    rw [List.filter_eq_self]
    exact List.length_filter_eq_length_iff.1 (by rw [hlen, h1.ok.inv.len]; omega)
  rw [this]
end
end Go.Proofs.Ytnbphdmpbjahhaa

/- quirelaw9.SeqAnyOrder, mathematics alone: units that are inserted in another order, each one's origins ahead of it. -/
namespace Go.Proofs.Ytnbphdmpbjahhaa
set_option linter.unusedVariables false
set_option linter.unusedSimpArgs false

/-- Units that may be inserted one after the other. -/
structure AoB (us : List Un) : Prop where
  ok : ∀ u ∈ us, u.ok
  len : us.length ≤ 1000
  may : ∀ j (hj : j < us.length), (treeOf (us.take j)).may us[j] = true
theorem AoB.tree {us : List Un} (h : AoB us) : ∀ j, j ≤ us.length → TOk (treeOf (us.take j)) ∧ (treeOf (us.take j)).l.map (·.u) = us.take j
  | 0, _ => ⟨TOk.zero, rfl⟩
  | j + 1, hj => by
    obtain ⟨a, b⟩ := h.tree j (by omega)
    obtain ⟨sp, hc⟩ := seqOf_corr us h.ok (by have := h.len; omega) j (by omega)
    have hm := h.may j hj
    rw [treeOf_take us j hj]
    refine ⟨?_, by rw [RS.insert_units, hm, if_pos rfl, b, List.take_succ_eq_append_getElem hj]⟩
    unfold RS.insert
    rw [hm]
    exact a.laid hc (h.ok _ (List.getElem_mem _)) (may_r.1 hm)
theorem AoB.full {us : List Un} (h : AoB us) : TOk (treeOf us) ∧ (treeOf us).l.map (·.u) = us ∧ ∃ sp, Corr (seqOf us) (treeOf us) sp := by
  have := h.tree us.length (Nat.le_refl _)
  have hc := seqOf_corr us h.ok (by have := h.len; omega) us.length (Nat.le_refl _)
  rw [List.take_length] at this hc
  exact ⟨this.1, this.2, hc⟩
theorem RS.nd_map {r : RS} {us : List Un} (h : r.l.map (·.u) = us) {x : Nat} (hx : x < us.length) : x < r.l.length ∧ (r.nd x).u = us[x] := by
  have hl : r.l.length = us.length := by rw [← h, List.length_map]
  refine ⟨by omega, ?_⟩
  rw [RS.nd_of (by omega)]
  simp only [← h, List.getElem_map]
theorem AoB.node {us : List Un} (h : AoB us) {x : Nat} (hx : x < us.length) : x < (treeOf us).l.length ∧ ((treeOf us).nd x).u = us[x] := RS.nd_map h.full.2.1 hx
theorem AoB.uniq {us : List Un} (h : AoB us) {i j : Nat} (hi : i < us.length) (hj : j < us.length) (hc : us[i].c = us[j].c) (hk : us[i].k = us[j].k) : i = j := by
  obtain ⟨a1, a2⟩ := h.node hi
  obtain ⟨b1, b2⟩ := h.node hj
  exact h.full.1.ok.uniq i j a1 b1 (by rw [a2, b2]; exact hc) (by rw [a2, b2]; exact hk)
theorem AoB.nodup {us : List Un} (h : AoB us) : us.Nodup := List.pairwise_iff_getElem.2 fun i j hi hj hij e => by
  have := h.uniq hi hj (by rw [e]) (by rw [e])
  omega
/-- What stands ahead of a sublist's first is not in it. -/
theorem ahead_not {x : Un} {rest us : List Un} (hs : (x :: rest).Sublist us) (hn : us.Nodup) {i : Nat} (hi : i < us.length) (hx : us[i] = x) {y : Nat} (hy : y < i) : us[y]'(by omega) ∉ x :: rest := fun hm => by
  have e : us = us.take i ++ x :: us.drop (i + 1) := by
    have := List.take_append_drop i us
    rw [List.drop_eq_getElem_cons hi, hx] at this
    exact this.symm
  have hyA : us[y]'(by omega) ∈ us.take i := List.mem_take_iff_getElem.2 ⟨y, by omega, rfl⟩
  generalize us[y]'(by omega) = v at *
  generalize us.take i = A at *
  generalize us.drop (i + 1) = B at *
  rw [e] at hs hn
  have hd := (List.nodup_append.1 hn).2.2
  obtain ⟨l1, l2, e1, s1, s2⟩ := List.sublist_append_iff.1 hs
  have hl2 : x :: rest = l2 := by
    cases l1 with
    | nil => exact e1
    | cons z l1 =>
      rw [List.cons_append, List.cons.injEq] at e1
      have hz : z ∈ A := s1.mem (by simp)
      exact absurd e1.1.symm (hd z hz x (by simp))
  rw [hl2] at hm
  exact hd v hyA v (s2.mem hm) rfl
/-- A unit's origins come ahead of it. -/
theorem AoB.org {us : List Un} (h : AoB us) {x : Nat} (hx : x < us.length) : ((us[x].lc = 0 ∧ us[x].lk = 0) ∨ ∃ y, ∃ hy : y < us.length, y < x ∧ us[y].c = us[x].lc ∧ us[y].k = us[x].lk) ∧ ((us[x].rc = 0 ∧ us[x].rk = 0) ∨ ∃ y, ∃ hy : y < us.length, y < x ∧ us[y].c = us[x].rc ∧ us[y].k = us[x].rk) := by
  obtain ⟨a1, a2⟩ := h.node hx
  have oL := h.full.1.ok.orgL x a1
  have oR := h.full.1.ok.orgR x a1
  rw [a2] at oL oR
  refine ⟨oL.imp (fun a => a) fun ⟨y, hy, e1, e2⟩ => ?_, oR.imp (fun a => a) fun ⟨y, hy, e1, e2⟩ => ?_⟩
  · obtain ⟨b1, b2⟩ := h.node (x := y) (by omega)
    exact ⟨y, by omega, hy, by rw [← b2]; exact e1, by rw [← b2]; exact e2⟩
  · obtain ⟨b1, b2⟩ := h.node (x := y) (by omega)
    exact ⟨y, by omega, hy, by rw [← b2]; exact e1, by rw [← b2]; exact e2⟩
/-- Those that were inserted so far (vs), and those that are left. -/
structure AoI (us vs left : List Un) : Prop where
  sub : left.Sublist us
  mem : ∀ v ∈ us, v ∈ left ∨ v ∈ vs
  dis : ∀ v ∈ vs, v ∈ us ∧ v ∉ left
  len : left.length + vs.length = us.length
  tok : TOk (treeOf vs)
  map : (treeOf vs).l.map (·.u) = vs
  subT : ∃ f, Sub (treeOf us) (treeOf vs) f
  corr : ∃ sp, Corr (seqOf vs) (treeOf vs) sp
  size : Size (seqOf vs) vs.length
theorem AoI.start (us : List Un) : AoI us [] us :=
  ⟨List.Sublist.refl _, fun v hv => .inl hv, fun v hv => (List.not_mem_nil hv).elim, by simp, TOk.zero, rfl, ⟨fun x => x, Sub.zero⟩, ⟨_, Corr.new⟩, Size.new⟩
/-- Is the origin there? -/
def there (S : SS) (c k : Int) : Prop := (c = 0 ∧ k = 0) ∨ 0 ≤ S.find c k
theorem seqOf_snoc (vs : List Un) (u : Un) : seqOf (vs ++ [u]) = (seqOf vs).run u 1 := by unfold seqOf; rw [List.foldl_append]; rfl
theorem treeOf_snoc (vs : List Un) (u : Un) : treeOf (vs ++ [u]) = (treeOf vs).insert u := by unfold treeOf; rw [List.foldl_append]; rfl
section
variable {us vs left : List Un}
theorem AoI.inv (h : AoI us vs left) : Inv (seqOf vs) := by
  obtain ⟨sp, hc⟩ := h.corr
  exact hc.inv
/-- One that was inserted is found. -/
theorem AoI.found (h : AoI us vs left) (hb : AoB us) {v : Un} (hv : v ∈ vs) : 0 ≤ (seqOf vs).find v.c v.k := by
  obtain ⟨sp, hc⟩ := h.corr
  obtain ⟨i, hi, rfl⟩ := List.mem_iff_getElem.1 hv
  obtain ⟨a, b⟩ := RS.nd_map h.map hi
  have hok := hb.ok _ (h.dis _ hv).1
  have hf := h.tok.ok.find_at a (c := vs[i].c) (k := vs[i].k) (by rw [b]) (by rw [b])
  rw [hc.find hok.c hok.k.1]
  unfold RS.findP
  rw [if_neg (by omega), hf]
  exact (h.tok.ok.inv.place_ge a).1
theorem AoI.first (h : AoI us vs left) (hb : AoB us) (h0 : 0 < left.length) : there (seqOf vs) left[0].lc left[0].lk ∧ there (seqOf vs) left[0].rc left[0].rk := by
  cases left with
  | nil => exact absurd h0 (Nat.lt_irrefl _)
  | cons x rest =>
    have hxm : x ∈ us := h.sub.mem (by simp)
    obtain ⟨i, hi, hxi⟩ := List.mem_iff_getElem.1 hxm
    have hnd := hb.nodup
    have pre : ∀ y (hy : y < us.length), y < i → us[y] ∈ vs := fun y hy hlt => by
      rcases h.mem _ (List.getElem_mem hy) with q | q
      · exact absurd q (ahead_not h.sub hnd hi hxi hlt)
      · exact q
    obtain ⟨oL, oR⟩ := hb.org hi
    rw [hxi] at oL oR
    show there _ x.lc x.lk ∧ there _ x.rc x.rk
    refine ⟨oL.imp (fun a => a) fun ⟨y, hy, hlt, e1, e2⟩ => ?_, oR.imp (fun a => a) fun ⟨y, hy, hlt, e1, e2⟩ => ?_⟩
    · rw [← e1, ← e2]; exact h.found hb (pre y hy hlt)
    · rw [← e1, ← e2]; exact h.found hb (pre y hy hlt)
theorem AoI.step (h : AoI us vs left) (hb : AoB us) {n : Nat} (hn : n < left.length) (hl : there (seqOf vs) left[n].lc left[n].lk) (hr : there (seqOf vs) left[n].rc left[n].rk) : (seqOf vs).may left[n] 1 = true ∧ AoI us (vs ++ [left[n]]) (left.take n ++ left.drop (n + 1)) := by
  obtain ⟨f, hS⟩ := h.subT
  obtain ⟨sp, hc⟩ := h.corr
  have hm : left[n] ∈ left := List.getElem_mem hn
  obtain ⟨i, hi, hxi⟩ := List.mem_iff_getElem.1 (h.sub.mem hm)
  obtain ⟨a1, a2⟩ := hb.node hi
  rw [hxi] at a2
  have hsplit : left = left.take n ++ left[n] :: left.drop (n + 1) := by
    have := List.take_append_drop n left
    rw [List.drop_eq_getElem_cons hn] at this
    exact this.symm
  have hnl : left.Nodup := hb.nodup.sublist h.sub
  rw [hsplit] at hnl
  have hse : (left.take n ++ left.drop (n + 1)).Sublist left := by
    rw [← List.eraseIdx_eq_take_drop_succ]; exact List.eraseIdx_sublist _ _
  have hle : (left.take n ++ left.drop (n + 1)).length + 1 = left.length := by
    rw [List.length_append, List.length_take, List.length_drop]; omega
  have hmem : ∀ v ∈ left, v ∈ left.take n ++ left.drop (n + 1) ∨ v = left[n] := fun v hv => by
    rw [hsplit] at hv
    rcases List.mem_append.1 hv with q | q
    · exact .inl (List.mem_append_left _ q)
    · rcases List.mem_cons.1 q with q | q
      · exact .inr q
      · exact .inl (List.mem_append_right _ q)
  have hun : left[n] ∉ left.take n ++ left.drop (n + 1) := fun q => by
    obtain ⟨_, n2, n3⟩ := List.nodup_append.1 hnl
    rcases List.mem_append.1 q with q | q
    · exact n3 _ q _ List.mem_cons_self rfl
    · exact (List.nodup_cons.1 n2).1 q
  generalize left.take n ++ left.drop (n + 1) = nleft at *
  generalize left[n] = u at *
  clear hsplit hnl
  have hok := hb.ok u (by rw [← hxi]; exact List.getElem_mem hi)
  have hnew : (treeOf vs).find u.c u.k = -1 := by
    refine Decidable.byContradiction fun q => ?_
    have hbn := RS.find_lt (r := treeOf vs) u.c u.k
    obtain ⟨y, hy⟩ := Int.eq_ofNat_of_zero_le (show 0 ≤ (treeOf vs).find u.c u.k by omega)
    obtain ⟨f0, f1, f2⟩ := RS.find_id hy
    have hl : (treeOf vs).l.length = vs.length := by rw [← h.map, List.length_map, h.map]
    obtain ⟨_, c2⟩ := RS.nd_map h.map (x := y) (by omega)
    rw [c2] at f1 f2
    have hv : vs[y]'(by omega) ∈ vs := List.getElem_mem _
    obtain ⟨d1, d2⟩ := h.dis _ hv
    obtain ⟨k, hk, hk2⟩ := List.mem_iff_getElem.1 d1
    have : k = i := hb.uniq hk hi (by rw [hk2, hxi]; exact f1) (by rw [hk2, hxi]; exact f2)
    subst this
    rw [← hk2, hxi] at d2
    exact d2 hm
  have th : ∀ {c k : Int}, 0 ≤ c → 0 ≤ k → there (seqOf vs) c k → (c = 0 ∧ k = 0) ∨ (treeOf vs).find c k ≠ -1 := fun {c k} h1 h2 q => q.imp (fun a => a) fun q e => by
    rw [hc.find h1 h2] at q
    unfold RS.findP at q
    rw [e, if_pos (by omega)] at q
    omega
  have hst := hS.step hb.full.1 h.tok hc a1 (by rw [a2]; exact hok) (by rw [a2]; exact hnew) (by rw [a2]; exact th hok.lc hok.lk.1 hl) (by rw [a2]; exact th hok.rc hok.rk.1 hr)
  rw [a2] at hst
  obtain ⟨hM, hT, hS'⟩ := hst
  have hmay : (treeOf vs).may u = true := may_r.2 hM
  have hz := h.len
  have hbl := hb.len
  obtain ⟨hcm, sp', hc'⟩ := hc.insert hok h.size (by omega)
  have hins : (treeOf vs).insert u = (treeOf vs).laid u := by unfold RS.insert; rw [hmay]; rfl
  refine ⟨by rw [hcm]; exact hmay, hse.trans h.sub, fun v hv => ?_, fun v hv => ?_, ?_, ?_, ?_, ?_, ?_, ?_⟩
  · rcases h.mem v hv with q | q
    · rcases hmem v q with q | q
      · exact .inl q
      · exact .inr (by rw [q]; simp)
    · exact .inr (List.mem_append_left _ q)
  · rcases List.mem_append.1 hv with q | q
    · obtain ⟨d1, d2⟩ := h.dis v q
      exact ⟨d1, fun q => d2 (hse.mem q)⟩
    · have : v = u := by simpa using q
      subst this
      exact ⟨h.sub.mem hm, hun⟩
  · rw [List.length_append, List.length_singleton]; omega
  · rw [treeOf_snoc, hins]; exact hT
  · rw [treeOf_snoc, RS.insert_units, hmay, if_pos rfl, h.map]
  · rw [treeOf_snoc, hins]; exact hS'
  · rw [treeOf_snoc, seqOf_snoc]; exact ⟨sp', hc'⟩
  · rw [seqOf_snoc, List.length_append]
    exact (h.inv.run1 hok h.size (by omega)).2
/-- None is left. -/
theorem AoI.done (h : AoI us vs []) (hb : AoB us) : (seqOf vs).units = (seqOf us).units ∧ (seqOf us).units.length = us.length := by
  obtain ⟨f, hS⟩ := h.subT
  obtain ⟨sp, hc⟩ := h.corr
  obtain ⟨t1, m1, sp1, hc1⟩ := hb.full
  have hl1 : (treeOf us).l.length = us.length := by rw [← m1, List.length_map, m1]
  have hl2 : (treeOf vs).l.length = vs.length := by rw [← h.map, List.length_map, h.map]
  have hlen := h.len
  rw [List.length_nil] at hlen
  rw [hc.units, hc1.units]
  exact ⟨hS.full t1 h.tok (by omega), by rw [List.length_map, t1.ok.inv.len, hl1]⟩
end
/-- grown's units are such. -/
theorem grown_ao (zs : List Int) : ∀ n, n ≤ zs.length → (grownG (zs.take n)).r = treeOf (grownG (zs.take n)).out ∧ ∀ j (hj : j < (grownG (zs.take n)).out.length), (treeOf ((grownG (zs.take n)).out.take j)).may (grownG (zs.take n)).out[j] = true
  | 0, _ => ⟨rfl, fun j hj => absurd hj (Nat.not_lt_zero _)⟩
  | n + 1, hn => by
    obtain ⟨a, b⟩ := grown_ao zs n (by omega)
    rw [grownG_take zs n hn]
    generalize grownG (zs.take n) = g at a b ⊢
    unfold GS.step
    cases hm : g.r.may (g.unit zs[n]) with
    | false => rw [if_neg (by simp)]; exact ⟨a, b⟩
    | true =>
      rw [if_pos rfl]
      refine ⟨?_, fun j hj => ?_⟩
      · show g.r.insert _ = treeOf (g.out ++ [_])
        rw [treeOf_snoc, ← a]
      · show (treeOf ((g.out ++ [g.unit zs[n]]).take j)).may (g.out ++ [g.unit zs[n]])[j] = true
        have hj' : j < (g.out ++ [g.unit zs[n]]).length := hj
        rw [List.length_append, List.length_singleton] at hj'
        by_cases hlt : j < g.out.length
        · rw [List.take_append_of_le_length (by omega), List.getElem_append_left hlt]
          exact b j hlt
        · have : j = g.out.length := by omega
          subst this
          rw [List.take_left, List.getElem_append_right (Nat.le_refl _)]
          simp only [Nat.sub_self, List.getElem_singleton]
          rw [← a]; exact hm
theorem grown_aob (zs : List Int) (hr : ∀ y ∈ zs, 0 ≤ y ∧ y < 65536) (hl : zs.length ≤ 1000) : AoB (grownG zs).out := by
  obtain ⟨gok, ginv⟩ := grown_ok zs hr hl
  have := (grown_ao zs zs.length (Nat.le_refl _)).2
  rw [List.take_length] at this
  exact ⟨fun u hu => (gok.ok u hu).1, by have := ginv.out; omega, this⟩
end Go.Proofs.Ytnbphdmpbjahhaa
