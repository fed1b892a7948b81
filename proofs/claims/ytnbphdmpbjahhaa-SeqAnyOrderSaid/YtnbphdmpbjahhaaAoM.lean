/- quirelaw9.SeqAnyOrder, mathematics alone: units that are inserted in another order, each one's origins ahead of it. -/
import Derived.Test.YtnbphdmpbjahhaaTrH
namespace Go.Proofs.Ytnbphdmpbjahhaa
set_option linter.unusedVariables false
set_option linter.unusedSimpArgs false

/-- Units that may be inserted one after the other. -/
structure AoB (us : List Un) : Prop where
  ok : ∀ u ∈ us, u.ok
  len : us.length ≤ 1000
  may : ∀ j (hj : j < us.length), (treeOf (us.take j)).may us[j] = true
theorem AoB.tree {us : List Un} (h : AoB us) : ∀ j, j ≤ us.length → TOk (treeOf (us.take j)) ∧ (treeOf (us.take j)).l.map (·.u) = us.take j
  | 0, _ => ⟨TOk.zero, rfl⟩
  | j + 1, hj => by
    obtain ⟨a, b⟩ := h.tree j (by omega)
    obtain ⟨sp, hc⟩ := seqOf_corr us h.ok (by have := h.len; omega) j (by omega)
    have hm := h.may j hj
    rw [treeOf_take us j hj]
    refine ⟨?_, by rw [RS.insert_units, hm, if_pos rfl, b, List.take_succ_eq_append_getElem hj]⟩
    unfold RS.insert
    rw [hm]
    exact a.laid hc (h.ok _ (List.getElem_mem _)) (may_r.1 hm)
theorem AoB.full {us : List Un} (h : AoB us) : TOk (treeOf us) ∧ (treeOf us).l.map (·.u) = us ∧ ∃ sp, Corr (seqOf us) (treeOf us) sp := by
  have := h.tree us.length (Nat.le_refl _)
  have hc := seqOf_corr us h.ok (by have := h.len; omega) us.length (Nat.le_refl _)
  rw [List.take_length] at this hc
  exact ⟨this.1, this.2, hc⟩
theorem RS.nd_map {r : RS} {us : List Un} (h : r.l.map (·.u) = us) {x : Nat} (hx : x < us.length) : x < r.l.length ∧ (r.nd x).u = us[x] := by
  have hl : r.l.length = us.length := by rw [← h, List.length_map]
  refine ⟨by omega, ?_⟩
  rw [RS.nd_of (by omega)]
  simp only [← h, List.getElem_map]
theorem AoB.node {us : List Un} (h : AoB us) {x : Nat} (hx : x < us.length) : x < (treeOf us).l.length ∧ ((treeOf us).nd x).u = us[x] := RS.nd_map h.full.2.1 hx
theorem AoB.uniq {us : List Un} (h : AoB us) {i j : Nat} (hi : i < us.length) (hj : j < us.length) (hc : us[i].c = us[j].c) (hk : us[i].k = us[j].k) : i = j := by
  obtain ⟨a1, a2⟩ := h.node hi
  obtain ⟨b1, b2⟩ := h.node hj
  exact h.full.1.ok.uniq i j a1 b1 (by rw [a2, b2]; exact hc) (by rw [a2, b2]; exact hk)
theorem AoB.nodup {us : List Un} (h : AoB us) : us.Nodup := List.pairwise_iff_getElem.2 fun i j hi hj hij e => by
  have := h.uniq hi hj (by rw [e]) (by rw [e])
  omega
/-- What stands ahead of a sublist's first is not in it. -/
theorem ahead_not {x : Un} {rest us : List Un} (hs : (x :: rest).Sublist us) (hn : us.Nodup) {i : Nat} (hi : i < us.length) (hx : us[i] = x) {y : Nat} (hy : y < i) : us[y]'(by omega) ∉ x :: rest := fun hm => by
  have e : us = us.take i ++ x :: us.drop (i + 1) := by
    have := List.take_append_drop i us
    rw [List.drop_eq_getElem_cons hi, hx] at this
    exact this.symm
  have hyA : us[y]'(by omega) ∈ us.take i := List.mem_take_iff_getElem.2 ⟨y, by omega, rfl⟩
  generalize us[y]'(by omega) = v at *
  generalize us.take i = A at *
  generalize us.drop (i + 1) = B at *
  rw [e] at hs hn
  have hd := (List.nodup_append.1 hn).2.2
  obtain ⟨l1, l2, e1, s1, s2⟩ := List.sublist_append_iff.1 hs
  have hl2 : x :: rest = l2 := by
    cases l1 with
    | nil => exact e1
    | cons z l1 =>
      rw [List.cons_append, List.cons.injEq] at e1
      have hz : z ∈ A := s1.mem (by simp)
      exact absurd e1.1.symm (hd z hz x (by simp))
  rw [hl2] at hm
  exact hd v hyA v (s2.mem hm) rfl
/-- A unit's origins come ahead of it. -/
theorem AoB.org {us : List Un} (h : AoB us) {x : Nat} (hx : x < us.length) : ((us[x].lc = 0 ∧ us[x].lk = 0) ∨ ∃ y, ∃ hy : y < us.length, y < x ∧ us[y].c = us[x].lc ∧ us[y].k = us[x].lk) ∧ ((us[x].rc = 0 ∧ us[x].rk = 0) ∨ ∃ y, ∃ hy : y < us.length, y < x ∧ us[y].c = us[x].rc ∧ us[y].k = us[x].rk) := by
  obtain ⟨a1, a2⟩ := h.node hx
  have oL := h.full.1.ok.orgL x a1
  have oR := h.full.1.ok.orgR x a1
  rw [a2] at oL oR
  refine ⟨oL.imp (fun a => a) fun ⟨y, hy, e1, e2⟩ => ?_, oR.imp (fun a => a) fun ⟨y, hy, e1, e2⟩ => ?_⟩
  · obtain ⟨b1, b2⟩ := h.node (x := y) (by omega)
    exact ⟨y, by omega, hy, by rw [← b2]; exact e1, by rw [← b2]; exact e2⟩
  · obtain ⟨b1, b2⟩ := h.node (x := y) (by omega)
    exact ⟨y, by omega, hy, by rw [← b2]; exact e1, by rw [← b2]; exact e2⟩
/-- Those that were inserted so far (vs), and those that are left. -/
structure AoI (us vs left : List Un) : Prop where
  sub : left.Sublist us
  mem : ∀ v ∈ us, v ∈ left ∨ v ∈ vs
  dis : ∀ v ∈ vs, v ∈ us ∧ v ∉ left
  len : left.length + vs.length = us.length
  tok : TOk (treeOf vs)
  map : (treeOf vs).l.map (·.u) = vs
  subT : ∃ f, Sub (treeOf us) (treeOf vs) f
  corr : ∃ sp, Corr (seqOf vs) (treeOf vs) sp
  size : Size (seqOf vs) vs.length
theorem AoI.start (us : List Un) : AoI us [] us :=
  ⟨List.Sublist.refl _, fun v hv => .inl hv, fun v hv => (List.not_mem_nil hv).elim, by simp, TOk.zero, rfl, ⟨fun x => x, Sub.zero⟩, ⟨_, Corr.new⟩, Size.new⟩
/-- Is the origin there? -/
def there (S : SS) (c k : Int) : Prop := (c = 0 ∧ k = 0) ∨ 0 ≤ S.find c k
theorem seqOf_snoc (vs : List Un) (u : Un) : seqOf (vs ++ [u]) = (seqOf vs).run u 1 := by unfold seqOf; rw [List.foldl_append]; rfl
theorem treeOf_snoc (vs : List Un) (u : Un) : treeOf (vs ++ [u]) = (treeOf vs).insert u := by unfold treeOf; rw [List.foldl_append]; rfl
section
variable {us vs left : List Un}
theorem AoI.inv (h : AoI us vs left) : Inv (seqOf vs) := by
  obtain ⟨sp, hc⟩ := h.corr
  exact hc.inv
/-- One that was inserted is found. -/
theorem AoI.found (h : AoI us vs left) (hb : AoB us) {v : Un} (hv : v ∈ vs) : 0 ≤ (seqOf vs).find v.c v.k := by
  obtain ⟨sp, hc⟩ := h.corr
  obtain ⟨i, hi, rfl⟩ := List.mem_iff_getElem.1 hv
  obtain ⟨a, b⟩ := RS.nd_map h.map hi
  have hok := hb.ok _ (h.dis _ hv).1
  have hf := h.tok.ok.find_at a (c := vs[i].c) (k := vs[i].k) (by rw [b]) (by rw [b])
  rw [hc.find hok.c hok.k.1]
  unfold RS.findP
  rw [if_neg (by omega), hf]
  exact (h.tok.ok.inv.place_ge a).1
theorem AoI.first (h : AoI us vs left) (hb : AoB us) (h0 : 0 < left.length) : there (seqOf vs) left[0].lc left[0].lk ∧ there (seqOf vs) left[0].rc left[0].rk := by
  cases left with
  | nil => exact absurd h0 (Nat.lt_irrefl _)
  | cons x rest =>
    have hxm : x ∈ us := h.sub.mem (by simp)
    obtain ⟨i, hi, hxi⟩ := List.mem_iff_getElem.1 hxm
    have hnd := hb.nodup
    have pre : ∀ y (hy : y < us.length), y < i → us[y] ∈ vs := fun y hy hlt => by
      rcases h.mem _ (List.getElem_mem hy) with q | q
      · exact absurd q (ahead_not h.sub hnd hi hxi hlt)
      · exact q
    obtain ⟨oL, oR⟩ := hb.org hi
    rw [hxi] at oL oR
    show there _ x.lc x.lk ∧ there _ x.rc x.rk
    refine ⟨oL.imp (fun a => a) fun ⟨y, hy, hlt, e1, e2⟩ => ?_, oR.imp (fun a => a) fun ⟨y, hy, hlt, e1, e2⟩ => ?_⟩
    · rw [← e1, ← e2]; exact h.found hb (pre y hy hlt)
    · rw [← e1, ← e2]; exact h.found hb (pre y hy hlt)
theorem AoI.step (h : AoI us vs left) (hb : AoB us) {n : Nat} (hn : n < left.length) (hl : there (seqOf vs) left[n].lc left[n].lk) (hr : there (seqOf vs) left[n].rc left[n].rk) : (seqOf vs).may left[n] 1 = true ∧ AoI us (vs ++ [left[n]]) (left.take n ++ left.drop (n + 1)) := by
  obtain ⟨f, hS⟩ := h.subT
  obtain ⟨sp, hc⟩ := h.corr
  have hm : left[n] ∈ left := List.getElem_mem hn
  obtain ⟨i, hi, hxi⟩ := List.mem_iff_getElem.1 (h.sub.mem hm)
  obtain ⟨a1, a2⟩ := hb.node hi
  rw [hxi] at a2
  have hsplit : left = left.take n ++ left[n] :: left.drop (n + 1) := by
    have := List.take_append_drop n left
    rw [List.drop_eq_getElem_cons hn] at this
    exact this.symm
  have hnl : left.Nodup := hb.nodup.sublist h.sub
  rw [hsplit] at hnl
  have hse : (left.take n ++ left.drop (n + 1)).Sublist left := by
    rw [← List.eraseIdx_eq_take_drop_succ]; exact List.eraseIdx_sublist _ _
  have hle : (left.take n ++ left.drop (n + 1)).length + 1 = left.length := by
    rw [List.length_append, List.length_take, List.length_drop]; omega
  have hmem : ∀ v ∈ left, v ∈ left.take n ++ left.drop (n + 1) ∨ v = left[n] := fun v hv => by
    rw [hsplit] at hv
    rcases List.mem_append.1 hv with q | q
    · exact .inl (List.mem_append_left _ q)
    · rcases List.mem_cons.1 q with q | q
      · exact .inr q
      · exact .inl (List.mem_append_right _ q)
  have hun : left[n] ∉ left.take n ++ left.drop (n + 1) := fun q => by
    obtain ⟨_, n2, n3⟩ := List.nodup_append.1 hnl
    rcases List.mem_append.1 q with q | q
    · exact n3 _ q _ List.mem_cons_self rfl
    · exact (List.nodup_cons.1 n2).1 q
  generalize left.take n ++ left.drop (n + 1) = nleft at *
  generalize left[n] = u at *
  clear hsplit hnl
  have hok := hb.ok u (by rw [← hxi]; exact List.getElem_mem hi)
  have hnew : (treeOf vs).find u.c u.k = -1 := by
    refine Decidable.byContradiction fun q => ?_
    have hbn := RS.find_lt (r := treeOf vs) u.c u.k
    obtain ⟨y, hy⟩ := Int.eq_ofNat_of_zero_le (show 0 ≤ (treeOf vs).find u.c u.k by omega)
    obtain ⟨f0, f1, f2⟩ := RS.find_id hy
    have hl : (treeOf vs).l.length = vs.length := by rw [← h.map, List.length_map, h.map]
    obtain ⟨_, c2⟩ := RS.nd_map h.map (x := y) (by omega)
    rw [c2] at f1 f2
    have hv : vs[y]'(by omega) ∈ vs := List.getElem_mem _
    obtain ⟨d1, d2⟩ := h.dis _ hv
    obtain ⟨k, hk, hk2⟩ := List.mem_iff_getElem.1 d1
    have : k = i := hb.uniq hk hi (by rw [hk2, hxi]; exact f1) (by rw [hk2, hxi]; exact f2)
    subst this
    rw [← hk2, hxi] at d2
    exact d2 hm
  have th : ∀ {c k : Int}, 0 ≤ c → 0 ≤ k → there (seqOf vs) c k → (c = 0 ∧ k = 0) ∨ (treeOf vs).find c k ≠ -1 := fun {c k} h1 h2 q => q.imp (fun a => a) fun q e => by
    rw [hc.find h1 h2] at q
    unfold RS.findP at q
    rw [e, if_pos (by omega)] at q
    omega
  have hst := hS.step hb.full.1 h.tok hc a1 (by rw [a2]; exact hok) (by rw [a2]; exact hnew) (by rw [a2]; exact th hok.lc hok.lk.1 hl) (by rw [a2]; exact th hok.rc hok.rk.1 hr)
  rw [a2] at hst
  obtain ⟨hM, hT, hS'⟩ := hst
  have hmay : (treeOf vs).may u = true := may_r.2 hM
  have hz := h.len
  have hbl := hb.len
  obtain ⟨hcm, sp', hc'⟩ := hc.insert hok h.size (by omega)
  have hins : (treeOf vs).insert u = (treeOf vs).laid u := by unfold RS.insert; rw [hmay]; rfl
  refine ⟨by rw [hcm]; exact hmay, hse.trans h.sub, fun v hv => ?_, fun v hv => ?_, ?_, ?_, ?_, ?_, ?_, ?_⟩
  · rcases h.mem v hv with q | q
    · rcases hmem v q with q | q
      · exact .inl q
      · exact .inr (by rw [q]; simp)
    · exact .inr (List.mem_append_left _ q)
  · rcases List.mem_append.1 hv with q | q
    · obtain ⟨d1, d2⟩ := h.dis v q
      exact ⟨d1, fun q => d2 (hse.mem q)⟩
    · have : v = u := by simpa using q
      subst this
      exact ⟨h.sub.mem hm, hun⟩
  · rw [List.length_append, List.length_singleton]; omega
  · rw [treeOf_snoc, hins]; exact hT
  · rw [treeOf_snoc, RS.insert_units, hmay, if_pos rfl, h.map]
  · rw [treeOf_snoc, hins]; exact hS'
  · rw [treeOf_snoc, seqOf_snoc]; exact ⟨sp', hc'⟩
  · rw [seqOf_snoc, List.length_append]
    exact (h.inv.run1 hok h.size (by omega)).2
/-- None is left. -/
theorem AoI.done (h : AoI us vs []) (hb : AoB us) : (seqOf vs).units = (seqOf us).units ∧ (seqOf us).units.length = us.length := by
  obtain ⟨f, hS⟩ := h.subT
  obtain ⟨sp, hc⟩ := h.corr
  obtain ⟨t1, m1, sp1, hc1⟩ := hb.full
  have hl1 : (treeOf us).l.length = us.length := by rw [← m1, List.length_map, m1]
  have hl2 : (treeOf vs).l.length = vs.length := by rw [← h.map, List.length_map, h.map]
  have hlen := h.len
  rw [List.length_nil] at hlen
  rw [hc.units, hc1.units]
  exact ⟨hS.full t1 h.tok (by omega), by rw [List.length_map, t1.ok.inv.len, hl1]⟩
end
/-- grown's units are such. -/
theorem grown_ao (zs : List Int) : ∀ n, n ≤ zs.length → (grownG (zs.take n)).r = treeOf (grownG (zs.take n)).out ∧ ∀ j (hj : j < (grownG (zs.take n)).out.length), (treeOf ((grownG (zs.take n)).out.take j)).may (grownG (zs.take n)).out[j] = true
  | 0, _ => ⟨rfl, fun j hj => absurd hj (Nat.not_lt_zero _)⟩
  | n + 1, hn => by
    obtain ⟨a, b⟩ := grown_ao zs n (by omega)
    rw [grownG_take zs n hn]
    generalize grownG (zs.take n) = g at a b ⊢
    unfold GS.step
    cases hm : g.r.may (g.unit zs[n]) with
    | false => rw [if_neg (by simp)]; exact ⟨a, b⟩
    | true =>
      rw [if_pos rfl]
      refine ⟨?_, fun j hj => ?_⟩
      · show g.r.insert _ = treeOf (g.out ++ [_])
        rw [treeOf_snoc, ← a]
      · show (treeOf ((g.out ++ [g.unit zs[n]]).take j)).may (g.out ++ [g.unit zs[n]])[j] = true
        have hj' : j < (g.out ++ [g.unit zs[n]]).length := hj
        rw [List.length_append, List.length_singleton] at hj'
        by_cases hlt : j < g.out.length
        · rw [List.take_append_of_le_length (by omega), List.getElem_append_left hlt]
          exact b j hlt
        · have : j = g.out.length := by omega
          subst this
          rw [List.take_left, List.getElem_append_right (Nat.le_refl _)]
          simp only [Nat.sub_self, List.getElem_singleton]
          rw [← a]; exact hm
theorem grown_aob (zs : List Int) (hr : ∀ y ∈ zs, 0 ≤ y ∧ y < 65536) (hl : zs.length ≤ 1000) : AoB (grownG zs).out := by
  obtain ⟨gok, ginv⟩ := grown_ok zs hr hl
  have := (grown_ao zs zs.length (Nat.le_refl _)).2
  rw [List.take_length] at this
  exact ⟨fun u hu => (gok.ok u hu).1, by have := ginv.out; omega, this⟩
end Go.Proofs.Ytnbphdmpbjahhaa
