/- Package seq: two writers who each write a text at one place (no Go in it): one text behind the other. -/
import Derived.Test.YtnbphdmpbjahhaaPart28
namespace Go.Proofs.Ytnbphdmpbjahhaa
set_option linter.unusedVariables false
set_option linter.unusedSimpArgs false

/-- The i-th unit of a writer, forwards or backwards. -/
def nmU (back : Bool) (c lc lk rc rk : Int) (i : Nat) : Un :=
  if i = 0 then ⟨c, 1, lc, lk, rc, rk⟩ else if back then ⟨c, (i : Int) + 1, lc, lk, c, (i : Int)⟩ else ⟨c, (i : Int) + 1, c, (i : Int), rc, rk⟩
def nmI (back : Bool) (n i : Nat) : Nat := if back then n - 1 - i else i
def nmL (back : Bool) (c lc lk rc rk : Int) (n : Nat) : List Un := (List.range n).map fun i => nmU back c lc lk rc rk (nmI back n i)
section
variable {back : Bool} {c lc lk rc rk : Int}
theorem nmU_id (i : Nat) : (nmU back c lc lk rc rk i).c = c ∧ (nmU back c lc lk rc rk i).k = (i : Int) + 1 := by
  unfold nmU
  split
  · next h => subst h; exact ⟨rfl, rfl⟩
  · split <;> exact ⟨rfl, rfl⟩
theorem nmL_len (n : Nat) : (nmL back c lc lk rc rk n).length = n := by simp [nmL]
theorem nmL_get {n i : Nat} (h : i < n) : (nmL back c lc lk rc rk n)[i]? = some (nmU back c lc lk rc rk (nmI back n i)) := by
  unfold nmL
  rw [List.getElem?_map, List.getElem?_range h]; rfl
theorem nmL_fwd (n : Nat) : nmL false c lc lk rc rk (n + 1) = nmL false c lc lk rc rk n ++ [nmU false c lc lk rc rk n] := by
  unfold nmL
  rw [List.range_succ, List.map_append]
  rfl
theorem nmL_back (n : Nat) : nmL true c lc lk rc rk (n + 1) = nmU true c lc lk rc rk n :: nmL true c lc lk rc rk n := by
  unfold nmL
  rw [List.range_succ_eq_map, List.map_cons, List.map_map]
  refine List.cons.injEq _ _ _ _ ▸ ⟨rfl, List.map_congr_left fun i _ => ?_⟩
  show nmU true c lc lk rc rk (n + 1 - 1 - (i + 1)) = nmU true c lc lk rc rk (n - 1 - i)
  congr 1
  omega
theorem nmL_mem {n : Nat} {v : Un} (h : v ∈ nmL back c lc lk rc rk n) : ∃ i, i < n ∧ v = nmU back c lc lk rc rk i := by
  obtain ⟨i, hi, rfl⟩ := List.mem_map.1 h
  have := List.mem_range.1 hi
  exact ⟨nmI back n i, by unfold nmI; split <;> omega, rfl⟩
/-- What is so of the place that they write at. -/
structure NmE (r0 : RS) (c lc lk rc rk : Int) : Prop where
  cl : 1 ≤ c ∧ c ≤ 1000
  new : ∀ x, x < r0.l.length → (r0.nd x).u.c ≠ c
  left : (lc = 0 ∧ lk = 0) ∨ r0.find lc lk ≠ -1
  right : (rc = 0 ∧ rk = 0) ∨ r0.find rc rk ≠ -1
  lok : 0 ≤ lc ∧ 0 ≤ lk ∧ lk < 18446744073709551616
  rok : 0 ≤ rc ∧ 0 ≤ rk ∧ rk < 18446744073709551616
theorem NmE.ok {r0 : RS} (h : NmE r0 c lc lk rc rk) (i : Nat) (hi : i ≤ 1000) : (nmU back c lc lk rc rk i).ok := by
  have := h.cl
  have := h.lok
  have := h.rok
  unfold nmU
  split
  · exact ⟨by show 0 ≤ c; omega, ⟨by show (0 : Int) ≤ 1; omega, by show (1 : Int) < _; omega⟩, by show 0 ≤ lc; omega, ⟨by show 0 ≤ lk; omega, by show lk < _; omega⟩, by show 0 ≤ rc; omega, ⟨by show 0 ≤ rk; omega, by show rk < _; omega⟩⟩
  · split
    · exact ⟨by show 0 ≤ c; omega, ⟨by show (0 : Int) ≤ (i : Int) + 1; omega, by show (i : Int) + 1 < _; omega⟩, by show 0 ≤ lc; omega, ⟨by show 0 ≤ lk; omega, by show lk < _; omega⟩, by show 0 ≤ c; omega, ⟨by show (0 : Int) ≤ i; omega, by show (i : Int) < _; omega⟩⟩
    · exact ⟨by show 0 ≤ c; omega, ⟨by show (0 : Int) ≤ (i : Int) + 1; omega, by show (i : Int) + 1 < _; omega⟩, by show 0 ≤ c; omega, ⟨by show (0 : Int) ≤ i; omega, by show (i : Int) < _; omega⟩, by show 0 ≤ rc; omega, ⟨by show 0 ≤ rk; omega, by show rk < _; omega⟩⟩
/-- A writer's first j units, and what stands around them. -/
structure NmS (r0 : RS) (T : SS) (r : RS) (sp : Nat → Sp) (back : Bool) (c lc lk rc rk : Int) (P Q : List Un) (N j : Nat) : Prop where
  corr : Corr T r sp
  size : Size T (N + j)
  units : T.units = P ++ nmL back c lc lk rc rk j ++ Q
  len : r.l.length = r0.l.length + j
  old : ∀ x, x < r0.l.length → (r.nd x).u = (r0.nd x).u ∧ (r.nd x).par = (r0.nd x).par
  new : ∀ i, i < j → (r.nd (r0.l.length + i)).u = nmU back c lc lk rc rk i
  zero : j = 0 → r = r0
  par0 : 0 < j → (r.nd r0.l.length).par = (r0.node (nmU back c lc lk rc rk 0)).par
  par : ∀ i, i + 1 < j → (r.nd (r0.l.length + (i + 1))).par = ((r0.l.length + i : Nat) : Int)
theorem NmS.start {r0 : RS} {T : SS} {sp : Nat → Sp} {P Q : List Un} {N : Nat} (h : Corr T r0 sp) (hz : Size T N) (hu : T.units = P ++ Q) : NmS r0 T r0 sp back c lc lk rc rk P Q N 0 :=
  ⟨h, hz, by rw [hu]; simp [nmL], rfl, fun x _ => ⟨rfl, rfl⟩, fun i hi => by omega, fun _ => rfl, fun h => by omega, fun i hi => by omega⟩
variable {r0 r : RS} {T : SS} {sp : Nat → Sp} {P Q : List Un} {N j : Nat}
/-- Left is found as it was. -/
theorem NmS.findL (h : NmS r0 T r sp back c lc lk rc rk P Q N j) (h0 : ROk r0) (e : NmE r0 c lc lk rc rk) : r.find lc lk = r0.find lc lk ∧ r.find rc rk = r0.find rc rk :=
  ⟨find_old h0 h.corr.ok (by have := h.len; omega) (fun x hx => (h.old x hx).1) e.left, find_old h0 h.corr.ok (by have := h.len; omega) (fun x hx => (h.old x hx).1) e.right⟩
/-- Left is above each of them, or none. -/
theorem NmS.upL (h : NmS r0 T r sp back c lc lk rc rk P Q N j) (h0 : ROk r0) (e : NmE r0 c lc lk rc rk) : ∀ i, i < j → (lc = 0 ∧ lk = 0) ∨ r.anc (r.find lc lk) (r0.l.length + i)
  | 0, hi => by
    obtain ⟨f1, f2⟩ := h.findL h0 e
    have hp := h.par0 hi
    by_cases hl : lc = 0 ∧ lk = 0
    · exact .inl hl
    right
    have hU : nmU back c lc lk rc rk 0 = ⟨c, 1, lc, lk, rc, rk⟩ := rfl
    rw [hU] at hp
    have hb := RS.find_lt (r := r0) lc lk
    have hln : r0.find lc lk ≠ -1 := e.left.resolve_left hl
    rw [Nat.add_zero]
    cases hL : r0.isL ⟨c, 1, lc, lk, rc, rk⟩ with
    | true =>
      obtain ⟨q, hq, h2⟩ := h0.isL_iff.1 hL
      have hq' : r0.find rc rk = (q : Int) := hq
      have hpq : (r.nd r0.l.length).par = (q : Int) := by
        rw [hp]
        show (if r0.isL _ then _ else _) = _
        rw [hL]; exact hq
      refine anc_step hpq ?_
      rw [f1]
      exact (anc_more h0.inv (fun x hx => (h.old x hx).2) (RS.find_id hq).1).2 (h2.resolve_left hl)
    | false =>
      refine anc_par ?_ (by omega)
      rw [hp, f1]
      show (if r0.isL _ then _ else _) = _
      rw [hL]; rfl
  | i + 1, hi => (h.upL h0 e i (by omega)).imp (fun a => a) fun q => anc_step (h.par i hi) q
/-- The parent of the next one is the one ahead of it. -/
theorem NmS.parN (h : NmS r0 T r sp back c lc lk rc rk P Q N j) (h0 : ROk r0) (e : NmE r0 c lc lk rc rk) {i : Nat} (hj : j = i + 1) : (r.node (nmU back c lc lk rc rk j)).par = ((r0.l.length + i : Nat) : Int) ∧ r.isL (nmU back c lc lk rc rk j) = back := by
  have hlen := h.len
  have hin := h.new i (by omega)
  obtain ⟨g1, g2⟩ := nmU_id (back := back) (c := c) (lc := lc) (lk := lk) (rc := rc) (rk := rk) i
  have hf : r.find c (j : Int) = ((r0.l.length + i : Nat) : Int) := h.corr.ok.find_at (by omega) (by rw [hin]; exact g1) (by rw [hin, g2, hj]; omega)
  cases back with
  | true =>
    have hU : nmU true c lc lk rc rk j = ⟨c, (j : Int) + 1, lc, lk, c, (j : Int)⟩ := by unfold nmU; rw [if_neg (by omega), if_pos rfl]
    have hL : r.isL (nmU true c lc lk rc rk j) = true := by
      rw [hU]
      exact h.corr.ok.isL_iff.2 ⟨r0.l.length + i, hf, h.upL h0 e i (by omega)⟩
    refine ⟨?_, hL⟩
    show (if r.isL _ then _ else _) = _
    rw [hL, hU]; exact hf
  | false =>
    have hU : nmU false c lc lk rc rk j = ⟨c, (j : Int) + 1, c, (j : Int), rc, rk⟩ := by unfold nmU; rw [if_neg (by omega)]; rfl
    have hrr : (nmU false c lc lk rc rk i).rc = rc ∧ (nmU false c lc lk rc rk i).rk = rk := by
      unfold nmU
      split <;> exact ⟨rfl, rfl⟩
    have hL : r.isL (nmU false c lc lk rc rk j) = false := by
      refine h.corr.ok.notL h.corr.find0 (t := r0.l.length + i) (by omega) ?_ ?_ ?_
      · rw [hU]; exact hf
      · rw [hin, hU]; exact hrr.1
      · rw [hin, hU]; exact hrr.2
    refine ⟨?_, hL⟩
    show (if r.isL _ then _ else _) = _
    rw [hL, hU]; exact hf
/-- Where the next one comes to. -/
def nmP (back : Bool) (P : List Un) (j : Nat) : Nat := P.length + (if back then 0 else j)
/-- The next one, where its place is known. -/
theorem NmS.next (h : NmS r0 T r sp back c lc lk rc rk P Q N j) (h0 : ROk r0) (e : NmE r0 c lc lk rc rk) (hN : N + j ≤ 1000) (hm : T.may (nmU back c lc lk rc rk j) 1 = true) (hp : T.placeFor (nmU back c lc lk rc rk j) = (nmP back P j : Int)) : ∃ r' sp', NmS r0 (T.run (nmU back c lc lk rc rk j) 1) r' sp' back c lc lk rc rk P Q N (j + 1) := by
  have hok := e.ok (back := back) j (by omega)
  have hM : MayR r (nmU back c lc lk rc rk j) := may_r.1 (by rw [← h.corr.may hok]; exact hm)
  obtain ⟨sp', hc, _⟩ := h.corr.step hok hM h.size (by omega)
  obtain ⟨_, hz⟩ := h.corr.inv.run1 hok h.size (by omega)
  obtain ⟨p, hp1, hp2, hp3⟩ := h.corr.inv.run_units hok hm (h.size.room (by omega) 1 (by omega))
  have hpe : p = nmP back P j := by rw [hp] at hp2; omega
  subst hpe
  have L := laid1 r (nmU back c lc lk rc rk j)
  have hlen := h.len
  refine ⟨r.laid (nmU back c lc lk rc rk j), sp', hc, by rw [← Nat.add_assoc]; exact hz, ?_, by rw [L.len, hlen]; omega, fun x hx => ?_, fun i hi => ?_, fun h => by omega, fun _ => ?_, fun i hi => ?_⟩
  · rw [hp3, h.units]
    cases back with
    | true =>
      rw [nmL_back]
      show List.take (P.length + 0) _ ++ _ :: List.drop (P.length + 0) _ = _
      rw [Nat.add_zero, List.append_assoc, List.take_left, List.drop_left]
      simp
    | false =>
      rw [nmL_fwd]
      have hl : (P ++ nmL false c lc lk rc rk j).length = nmP false P j := by rw [List.length_append, nmL_len]; rfl
      rw [← hl, List.take_left, List.drop_left]
      simp
  · have := L.old x (by omega)
    have h2 := h.old x hx
    exact ⟨this.1.trans h2.1, this.2.trans h2.2⟩
  · by_cases hij : i = j
    · subst hij
      rw [← hlen, L.me]; rfl
    · rw [(L.old _ (by omega)).1]; exact h.new i (by omega)
  · by_cases hj0 : j = 0
    · have := h.zero hj0
      subst hj0
      rw [show r0.l.length = r.l.length by omega, L.me, this]
    · rw [(L.old _ (by omega)).2]; exact h.par0 (by omega)
  · by_cases hij : i + 1 = j
    · rw [hij, ← hlen, L.me]; exact (h.parN h0 e hij.symm).1
    · rw [(L.old _ (by omega)).2]; exact h.par i (by omega)
/-- Neighbours. -/
def NbL (P : List Un) (lc lk : Int) : Prop := (P = [] → lc = 0 ∧ lk = 0) ∧ ∀ v, P.getLast? = some v → v.c = lc ∧ v.k = lk
def NbR (Q : List Un) (rc rk : Int) : Prop := (Q = [] → rc = 0 ∧ rk = 0) ∧ ∀ v, Q.head? = some v → v.c = rc ∧ v.k = rk
theorem Inv.near {S : SS} (h : Inv S) {u : Un} {A B : List Un} (hu : S.units = A ++ B) (hL : NbL A u.lc u.lk) (hR : NbR B u.rc u.rk) : (S.between u).2.2 = true ∧ S.placeFor u = (A.length : Int) := by
  have hlen : S.units.length = A.length + B.length := by rw [hu, List.length_append]
  refine h.between_at (p := A.length) (by omega) (fun e => ?_) (fun q hq e => ?_) (fun e => ?_) (fun hq => ?_)
  · exact hL.1 (List.length_eq_zero_iff.1 e)
  · refine hL.2 _ ?_
    rw [List.getLast?_eq_getElem?, show A.length - 1 = q by omega]
    have : S.units[q]? = A[q]? := by rw [hu, List.getElem?_append_left (by omega)]
    rw [← this, List.getElem?_eq_getElem hq]
  · exact hR.1 (List.length_eq_zero_iff.1 (by omega))
  · refine hR.2 _ ?_
    have : S.units[A.length]? = B[0]? := by rw [hu, List.getElem?_append_right (Nat.le_refl _), Nat.sub_self]
    rw [List.head?_eq_getElem?, ← this, List.getElem?_eq_getElem hq]
/-- It may be laid, if its origins are there in order. -/
theorem NmS.may (h : NmS r0 T r sp back c lc lk rc rk P Q N j) (e : NmE r0 c lc lk rc rk) (hN : N + j ≤ 1000) (hb : (T.between (nmU back c lc lk rc rk j)).2.2 = true) : T.may (nmU back c lc lk rc rk j) 1 = true := by
  obtain ⟨g1, g2⟩ := nmU_id (back := back) (c := c) (lc := lc) (lk := lk) (rc := rc) (rk := rk) j
  have hc := e.cl
  refine may_iff.2 ⟨⟨by rw [g1]; simp only [numOk, Bool.and_eq_true, decide_eq_true_eq]; omega, by rw [g2]; simp only [numOk, Bool.and_eq_true, decide_eq_true_eq]; omega⟩, Int.le_refl _, by rw [g2]; omega, ?_, hb⟩
  rw [g1, g2]
  refine h.corr.inv.hasAny_false hc.1 (by omega) (by omega) fun v hv => ?_
  rintro ⟨q1, q2, q3⟩
  rw [h.corr.units] at hv
  obtain ⟨x, hx, rfl⟩ := List.mem_map.1 hv
  have hxl := h.corr.ok.inv.lt x hx
  have hlen := h.len
  by_cases hx0 : x < r0.l.length
  · rw [(h.old x hx0).1] at q1
    exact e.new x hx0 q1
  · obtain ⟨i, rfl⟩ : ∃ i, x = r0.l.length + i := ⟨x - r0.l.length, by omega⟩
    rw [h.new i (by omega), (nmU_id i).2] at q2
    omega
theorem last_snoc {α : Type} (l : List α) (x : α) : (l ++ [x]).getLast? = some x := by simp
/-- Between neighbours: the first writer's units, and the second one's forwards. -/
theorem NmS.nextN (h : NmS r0 T r sp back c lc lk rc rk P Q N j) (h0 : ROk r0) (e : NmE r0 c lc lk rc rk) (hN : N + j ≤ 1000) (hL : (back = true ∨ j = 0) → NbL P lc lk) (hR : NbR Q rc rk) : T.may (nmU back c lc lk rc rk j) 1 = true ∧ ∃ r' sp', NmS r0 (T.run (nmU back c lc lk rc rk j) 1) r' sp' back c lc lk rc rk P Q N (j + 1) := by
  have key : (T.between (nmU back c lc lk rc rk j)).2.2 = true ∧ T.placeFor (nmU back c lc lk rc rk j) = (nmP back P j : Int) := by
    cases back with
    | true =>
      have hu : T.units = P ++ (nmL true c lc lk rc rk j ++ Q) := by rw [h.units]; simp
      refine h.corr.inv.near hu ?_ ?_
      · have := hL (.inl rfl)
        unfold nmU
        split <;> exact this
      · cases j with
        | zero => exact hR
        | succ i =>
          have hU : nmU true c lc lk rc rk (i + 1) = ⟨c, ((i + 1 : Nat) : Int) + 1, lc, lk, c, ((i + 1 : Nat) : Int)⟩ := by unfold nmU; rw [if_neg (by omega), if_pos rfl]
          rw [hU, nmL_back]
          refine ⟨fun q => by simp at q, fun v hv => ?_⟩
          have : nmU true c lc lk rc rk i = v := by simpa using hv
          subst this
          obtain ⟨g1, g2⟩ := nmU_id (back := true) (c := c) (lc := lc) (lk := lk) (rc := rc) (rk := rk) i
          exact ⟨g1, by rw [g2]; show _ = ((i + 1 : Nat) : Int); omega⟩
    | false =>
      have hl : (P ++ nmL false c lc lk rc rk j).length = nmP false P j := by rw [List.length_append, nmL_len]; rfl
      rw [← hl]
      refine h.corr.inv.near h.units ?_ ?_
      · cases j with
        | zero =>
          have := hL (.inr rfl)
          have e0 : nmL false c lc lk rc rk 0 = [] := rfl
          rw [e0, List.append_nil]; exact this
        | succ i =>
          have hU : nmU false c lc lk rc rk (i + 1) = ⟨c, ((i + 1 : Nat) : Int) + 1, c, ((i + 1 : Nat) : Int), rc, rk⟩ := by unfold nmU; rw [if_neg (by omega)]; rfl
          rw [hU, nmL_fwd, ← List.append_assoc]
          refine ⟨fun q => by simp at q, fun v hv => ?_⟩
          rw [last_snoc] at hv
          have : nmU false c lc lk rc rk i = v := Option.some.inj hv
          subst this
          obtain ⟨g1, g2⟩ := nmU_id (back := false) (c := c) (lc := lc) (lk := lk) (rc := rc) (rk := rk) i
          exact ⟨g1, by rw [g2]; show _ = ((i + 1 : Nat) : Int); omega⟩
      · unfold nmU
        split <;> exact hR
  have hm := h.may e hN key.1
  exact ⟨hm, h.next h0 e hN hm key.2⟩
theorem Corr.spot_unit {S : SS} {r : RS} {sp : Nat → Sp} (h : Corr S r sp) {q x : Nat} {v : Un} (hq : S.units[q]? = some v) (hx : x < r.l.length) (hv : (r.nd x).u = v) : S.spotAt (q : Int) = sp x := by
  rw [h.units, List.getElem?_map] at hq
  cases ht : r.order[q]? with
  | none => rw [ht] at hq; cases hq
  | some y =>
    rw [ht] at hq
    have e1 : (r.nd y).u = v := by simpa using hq
    obtain ⟨hql, ey⟩ := List.getElem?_eq_some_iff.1 ht
    have hy : y < r.l.length := h.ok.inv.lt y (List.mem_of_getElem? ht)
    have : y = x := h.ok.uniq y x hy hx (by rw [e1, hv]) (by rw [e1, hv])
    rw [h.spotAt hql, ey, this]
theorem Corr.parI {S : SS} {r : RS} {sp : Nat → Sp} (h : Corr S r sp) {x : Nat} (hx : x < r.l.length) : parS S.runs (sp x) = spI sp (r.nd x).par := by
  have hup := h.ok.inv.up x hx
  unfold spI
  by_cases hn : (r.nd x).par < 0
  · rw [if_pos hn]; exact h.par0 x hx (by omega)
  · rw [if_neg hn]
    exact h.par x _ hx (by omega)
end
section
variable {back : Bool} {lc lk rc rk : Int} {r0 r1 r2 : RS} {T1 T2 : SS} {sp1 sp2 : Nat → Sp} {P Q : List Un} {N n j : Nat}
/-- The first writer's units, each below the first. -/
theorem nm_up {r : RS} {S : SS} {sp : Nat → Sp} (h : Corr S r sp) {b n : Nat} (hb : b + n ≤ r.l.length) (hp : ∀ i, i + 1 < n → (r.nd (b + (i + 1))).par = ((b + i : Nat) : Int)) : ∀ i, i < n → upN S.runs i (sp (b + i)) = sp b
  | 0, _ => rfl
  | i + 1, hi => by
    show upN S.runs i (parS S.runs (sp (b + (i + 1)))) = _
    rw [h.par _ _ (by omega) (hp i hi)]
    exact nm_up h hb hp i (by omega)
/-- Where the first writer's units are. -/
theorem nm_at {X : List Un} {c : Int} (hu : T2.units = P ++ nmL back c lc lk rc rk n ++ X) {q : Nat} (h1 : P.length ≤ q) (h2 : q < P.length + n) : ∃ i, i < n ∧ T2.units[q]? = some (nmU back c lc lk rc rk i) := by
  refine ⟨nmI back n (q - P.length), by unfold nmI; split <;> omega, ?_⟩
  rw [hu, List.append_assoc, List.getElem?_append_right h1, List.getElem?_append_left (by rw [nmL_len]; omega)]
  exact nmL_get (by omega)
/-- The second writer's first unit stands behind all of the first writer's. -/
theorem NmS.second (h : NmS r0 T1 r1 sp1 back 901 lc lk rc rk P Q N n) (hn : 1 ≤ n) (h0 : ROk r0) (e : NmE r0 901 lc lk rc rk) (e2 : NmE r1 902 lc lk rc rk) (hN : N + n ≤ 900) (hL : NbL P lc lk) (hR : NbR Q rc rk) : T1.may (nmU back 902 lc lk rc rk 0) 1 = true ∧ T1.placeFor (nmU back 902 lc lk rc rk 0) = ((P ++ nmL back 901 lc lk rc rk n).length : Int) := by
  have hU : nmU back 902 lc lk rc rk 0 = ⟨902, 1, lc, lk, rc, rk⟩ := rfl
  have hc := h.corr
  have hI := hc.inv
  have hlen : T1.units.length = P.length + n + Q.length := by rw [h.units, List.length_append, List.length_append, nmL_len]
  have hul := hI.units_len
  have f0 : T1.find 0 0 = -1 := hI.find_none (by omega) (by omega) fun v hv => by have := hI.units_ok hv; omega
  -- its places
  have hfL : T1.find lc lk + 1 = (P.length : Int) ∧ ((P.length : Int) = 0 → lc = 0 ∧ lk = 0) := by
    rcases List.eq_nil_or_concat P with hP | ⟨P0, z, hP⟩
    · obtain ⟨q1, q2⟩ := hL.1 hP
      rw [q1, q2, f0, hP]
      exact ⟨rfl, fun _ => ⟨rfl, rfl⟩⟩
    · rw [List.concat_eq_append] at hP
      obtain ⟨q1, q2⟩ := hL.2 z (by rw [hP]; exact last_snoc _ _)
      have hz : T1.units[P0.length]? = some z := by
        rw [h.units, hP, List.append_assoc, List.append_assoc, List.getElem?_append_right (Nat.le_refl _), Nat.sub_self]; rfl
      obtain ⟨hzl, hze⟩ := List.getElem?_eq_some_iff.1 hz
      have := hI.find_units P0.length hzl
      rw [hze, q1, q2] at this
      rw [this, hP, List.length_append]
      exact ⟨by simp, fun q => by simp at q; omega⟩
  have hfR : T1.rightOf ⟨902, 1, lc, lk, rc, rk⟩ = ((P.length + n : Nat) : Int) := by
    show (if rc = 0 ∧ rk = 0 then T1.total else T1.find rc rk) = _
    cases hQ : Q with
    | nil =>
      rw [if_pos (hR.1 hQ)]
      rw [hQ] at hlen
      simp at hlen
      omega
    | cons z Q' =>
      obtain ⟨q1, q2⟩ := hR.2 z (by rw [hQ]; rfl)
      have hz : T1.units[P.length + n]? = some z := by
        rw [h.units, List.getElem?_append_right (by rw [List.length_append, nmL_len]; omega), List.length_append, nmL_len, Nat.sub_self, hQ]; rfl
      obtain ⟨hzl, hze⟩ := List.getElem?_eq_some_iff.1 hz
      have := hI.find_units _ hzl
      have hok := hI.units_ok (List.getElem_mem hzl)
      rw [hze] at this hok
      rw [q1, q2] at this
      rw [q1] at hok
      rw [if_neg (by omega), this]
  have hbt : T1.between ⟨902, 1, lc, lk, rc, rk⟩ = ((P.length : Int), ((P.length + n : Nat) : Int), true) := by
    unfold SS.between
    show (if (T1.find lc lk + 1 = 0 ∧ ¬ (lc = 0 ∧ lk = 0)) ∨ T1.rightOf ⟨902, 1, lc, lk, rc, rk⟩ < T1.find lc lk + 1 then _ else _) = _
    rw [hfR, hfL.1, if_neg]
    rintro (⟨a, b⟩ | a)
    · exact b (hfL.2 a)
    · omega
  have hst : NmS r1 T1 r1 sp1 back 902 lc lk rc rk (P ++ nmL back 901 lc lk rc rk n) Q (N + n) 0 := NmS.start hc h.size h.units
  have hm := hst.may e2 (by omega) (by rw [hU, hbt])
  refine ⟨hm, ?_⟩
  rw [hU] at hm ⊢
  have hok : (⟨902, 1, lc, lk, rc, rk⟩ : Un).ok := e2.ok (back := back) 0 (by omega)
  have hM : MayR r1 ⟨902, 1, lc, lk, rc, rk⟩ := may_r.1 (by rw [← hc.may hok]; exact hm)
  have hD : Down T1.runs := hI.down
  have hpar := hc.parentOf hD hM
  have hl1 := h.len
  have hn2 := node_more h0 hc.ok (by omega) h.old (u := ⟨902, 1, lc, lk, rc, rk⟩) e.left e.right
  have hsame : (r0.node (nmU back 901 lc lk rc rk 0)).par = (r0.node ⟨902, 1, lc, lk, rc, rk⟩).par := rfl
  have hp0 : parS T1.runs (sp1 r0.l.length) = (T1.parentOf ⟨902, 1, lc, lk, rc, rk⟩).1 := by
    rw [hc.parI (by omega), h.par0 (by omega), hsame, ← hn2.2, hpar]
  have hPV : SpV T1.runs (T1.parentOf ⟨902, 1, lc, lk, rc, rk⟩).1 := by
    rw [← hp0]; exact (hc.runs.parV (hc.spV _ (by omega)).1).1
  have hlenX : (P ++ nmL back 901 lc lk rc rk n).length = P.length + n := by rw [List.length_append, nmL_len]
  rw [hlenX]
  refine SS.turn hbt (by omega) (Nat.le_refl _) (fun q hq1 hq2 => ?_) (fun q hq1 hq2 => by omega)
  obtain ⟨i, hi, hqi⟩ := nm_at h.units hq1 hq2
  have hsp := hc.spot_unit hqi (x := r0.l.length + i) (by omega) (h.new i hi)
  have hup := nm_up hc (b := r0.l.length) (n := n) (by omega) h.par i hi
  have hch := childR_eq hc.runs hD hPV (hc.spV (r0.l.length + i) (by omega)).1 (k := i) (by rw [hup]; exact hp0) (by rw [hup]; exact (hc.spV _ (by omega)).2)
  unfold SS.placeP
  rw [hsp, hch, hup]
  show (if true = true then T1.isAhead _ (T1.unit (sp1 r0.l.length)) else _) = false
  have hn0 : (r1.nd r0.l.length).u = nmU back 901 lc lk rc rk 0 := h.new 0 (by omega)
  rw [if_pos rfl, hc.unit _ (by omega), hn0]
  show T1.isAhead ⟨902, 1, lc, lk, rc, rk⟩ ⟨901, 1, lc, lk, rc, rk⟩ = false
  unfold SS.isAhead
  rw [if_pos ⟨rfl, rfl⟩]
  show lessI 902 1 901 1 = false
  decide
/-- Backwards: the second writer's next unit stands behind all of the first writer's, too. -/
theorem NmS.secondB (h1 : NmS r0 T1 r1 sp1 back 901 lc lk rc rk P Q N n) (h0 : ROk r0) (e2 : NmE r1 902 lc lk rc rk) (h : NmS r1 T2 r2 sp2 true 902 lc lk rc rk (P ++ nmL true 901 lc lk rc rk n) Q (N + n) (j + 1)) (hb : back = true) (hN : N + n + j ≤ 900) (hL : NbL P lc lk) : T2.may (nmU true 902 lc lk rc rk (j + 1)) 1 = true ∧ T2.placeFor (nmU true 902 lc lk rc rk (j + 1)) = ((P ++ nmL true 901 lc lk rc rk n).length : Int) := by
  subst hb
  have hU : nmU true 902 lc lk rc rk (j + 1) = ⟨902, ((j + 1 : Nat) : Int) + 1, lc, lk, 902, ((j + 1 : Nat) : Int)⟩ := by unfold nmU; rw [if_neg (by omega), if_pos rfl]
  have hc := h.corr
  have hI := hc.inv
  have hl1 := h1.len
  have hl2 := h.len
  have f0 : T2.find 0 0 = -1 := hI.find_none (by omega) (by omega) fun v hv => by have := hI.units_ok hv; omega
  have hlenX : (P ++ nmL true 901 lc lk rc rk n).length = P.length + n := by rw [List.length_append, nmL_len]
  have hu' : T2.units = P ++ nmL true 901 lc lk rc rk n ++ (nmL true 902 lc lk rc rk (j + 1) ++ Q) := by rw [h.units]; simp
  have hfL : T2.find lc lk + 1 = (P.length : Int) ∧ ((P.length : Int) = 0 → lc = 0 ∧ lk = 0) := by
    rcases List.eq_nil_or_concat P with hP | ⟨P0, z, hP⟩
    · obtain ⟨q1, q2⟩ := hL.1 hP
      rw [q1, q2, f0, hP]
      exact ⟨rfl, fun _ => ⟨rfl, rfl⟩⟩
    · rw [List.concat_eq_append] at hP
      obtain ⟨q1, q2⟩ := hL.2 z (by rw [hP]; exact last_snoc _ _)
      have hz : T2.units[P0.length]? = some z := by
        rw [hu', hP, List.append_assoc, List.append_assoc, List.getElem?_append_right (Nat.le_refl _), Nat.sub_self]; rfl
      obtain ⟨hzl, hze⟩ := List.getElem?_eq_some_iff.1 hz
      have := hI.find_units P0.length hzl
      rw [hze, q1, q2] at this
      rw [this, hP, List.length_append]
      exact ⟨by simp, fun q => by simp at q; omega⟩
  have hfR : T2.rightOf ⟨902, ((j + 1 : Nat) : Int) + 1, lc, lk, 902, ((j + 1 : Nat) : Int)⟩ = ((P.length + n : Nat) : Int) := by
    show (if (902 : Int) = 0 ∧ ((j + 1 : Nat) : Int) = 0 then T2.total else T2.find 902 ((j + 1 : Nat) : Int)) = _
    have hz : T2.units[P.length + n]? = some (nmU true 902 lc lk rc rk j) := by
      rw [hu', List.getElem?_append_right (by omega), hlenX, Nat.sub_self, nmL_back]; rfl
    obtain ⟨hzl, hze⟩ := List.getElem?_eq_some_iff.1 hz
    have := hI.find_units _ hzl
    rw [hze, (nmU_id j).1, (nmU_id j).2] at this
    rw [if_neg (by omega), show ((j + 1 : Nat) : Int) = (j : Int) + 1 by omega, this]
  have hbt : T2.between ⟨902, ((j + 1 : Nat) : Int) + 1, lc, lk, 902, ((j + 1 : Nat) : Int)⟩ = ((P.length : Int), ((P.length + n : Nat) : Int), true) := by
    unfold SS.between
    show (if (T2.find lc lk + 1 = 0 ∧ ¬ (lc = 0 ∧ lk = 0)) ∨ T2.rightOf ⟨902, ((j + 1 : Nat) : Int) + 1, lc, lk, 902, ((j + 1 : Nat) : Int)⟩ < T2.find lc lk + 1 then _ else _) = _
    rw [hfR, hfL.1, if_neg]
    rintro (⟨a, b⟩ | a)
    · exact b (hfL.2 a)
    · omega
  have hm := h.may e2 (by omega) (by rw [hU, hbt])
  refine ⟨hm, ?_⟩
  have hok := e2.ok (back := true) (j + 1) (by omega)
  have hM : MayR r2 (nmU true 902 lc lk rc rk (j + 1)) := may_r.1 (by rw [← hc.may hok]; exact hm)
  have hD : Down T2.runs := hI.down
  have hpar := hc.parentOf hD hM
  obtain ⟨n1, n2⟩ := h.parN h1.corr.ok e2 (i := j) rfl
  rw [n1, n2] at hpar
  rw [hlenX]
  rw [hU] at hpar ⊢
  have hp1 : (T2.parentOf ⟨902, ((j + 1 : Nat) : Int) + 1, lc, lk, 902, ((j + 1 : Nat) : Int)⟩).1 = sp2 (r1.l.length + j) := by
    rw [hpar]
    show spI sp2 ((r1.l.length + j : Nat) : Int) = _
    unfold spI
    rw [if_neg (by omega), Int.toNat_natCast]
  have hp2 : (T2.parentOf ⟨902, ((j + 1 : Nat) : Int) + 1, lc, lk, 902, ((j + 1 : Nat) : Int)⟩).2 = true := by rw [hpar]
  refine SS.turn hbt (by omega) (Nat.le_refl _) (fun q hq1 hq2 => ?_) (fun q hq1 hq2 => by omega)
  obtain ⟨i, hi, hqi⟩ := nm_at hu' hq1 hq2
  have hsp := hc.spot_unit hqi (x := r0.l.length + i) (by omega) (by rw [(h.old _ (by omega)).1]; exact h1.new i hi)
  have hno : (childR T2.runs (sp2 (r1.l.length + j)) (sp2 (r0.l.length + i))).2 = false := by
    refine childR_no hc.runs hD (hc.spV _ (by omega)).1 (hc.spV _ (by omega)).1 (hc.noUps _ (by omega) r2.l.length _ (by omega) (by omega) ?_)
    cases hq : r2.ups ((r1.l.length + j : Nat) : Int) r2.l.length (r2.nd (r0.l.length + i)).par with
    | false => rfl
    | true =>
      have := hc.ok.inv.anc_lt (x := r0.l.length + i) (by omega) ⟨_, hq⟩
      omega
  unfold SS.placeP
  rw [hsp, hp1, hp2, hno]
  rfl
end
end Go.Proofs.Ytnbphdmpbjahhaa
