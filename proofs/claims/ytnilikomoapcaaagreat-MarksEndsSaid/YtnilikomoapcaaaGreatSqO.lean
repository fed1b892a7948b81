/- What is so of a sequence stays so behind Run (no Go in it). -/
import Derived.Test.YtnilikomoapcaaaGreatPart12
import Derived.Test.YtnilikomoapcaaaGreatPart15
namespace Go.Proofs.YtnilikomoapcaaaGreat
set_option linter.unusedVariables false
set_option linter.unusedSimpArgs false

theorem Free.cutF {S : SS} (h : Inv S) {c k n : Int} (hn : 1 ≤ n) (hf : Free S c k n) (p : Int) : Free (S.cut p) c k n := by
  unfold SS.cut
  by_cases hr : 0 < S.restAt p
  · rw [if_pos hr]
    obtain ⟨ha, hb, hc⟩ := h.atOk (p - 1)
    have hrd : S.restAt p = S.len (S.cutAt p) - (atF S.len S.ord (p - 1)).2 - 1 := rfl
    have hi0 : S.cutAt p ≠ 0 := fun e => by
      rw [e, h.ordF.zero] at hrd
      omega
    have ha' : S.cutAt p < S.pcs.length := ha
    have hb' : 0 ≤ (atF S.len S.ord (p - 1)).2 := hb
    generalize S.restAt p = rest at *
    generalize S.cutAt p = i at *
    generalize (atF S.len S.ord (p - 1)).2 = wi at *
    intro x hx0 hxl
    have hxl' : x < S.pcs.length + 1 := by
      have : ((S.grow i (-rest)).addPiece i i ((S.grow i (-rest)).endOf i) rest).pcs.length = S.pcs.length + 1 := by show (S.pcs ++ [_]).length = _; simp
      omega
    have hlen : ((S.grow i (-rest)).addPiece i i ((S.grow i (-rest)).endOf i) rest).len x = S.len x + (if x = i then -rest else 0) + (if x = S.pcs.length then rest else 0) := rfl
    have hpc : ((S.grow i (-rest)).addPiece i i ((S.grow i (-rest)).endOf i) rest).pc x = if x < S.pcs.length then S.pc x else if x = S.pcs.length then (S.grow i (-rest)).endOf i else .zero := pc_snoc (S := S) (x := (S.grow i (-rest)).endOf i) (i := x)
    by_cases hx : x < S.pcs.length
    · have e : ((S.grow i (-rest)).addPiece i i ((S.grow i (-rest)).endOf i) rest).first x = S.first x := first_eq (S := S) (T := (S.grow i (-rest)).addPiece i i ((S.grow i (-rest)).endOf i) rest) rfl (by rw [hpc, if_pos hx])
      rw [e, hlen, if_neg (show ¬ x = S.pcs.length by omega)]
      rcases hf x hx0 hx with h1 | h1 | h1
      · exact .inl h1
      · refine .inr (.inl ?_)
        split <;> omega
      · exact .inr (.inr h1)
    · have ex : x = S.pcs.length := by omega
      have e1 : (((S.grow i (-rest)).addPiece i i ((S.grow i (-rest)).endOf i) rest).first x).c = (S.first i).c ∧ (((S.grow i (-rest)).addPiece i i ((S.grow i (-rest)).endOf i) rest).first x).k = (S.first i).k + (S.len i - rest) := by
        have e2 : (S.grow i (-rest)).endOf i = ⟨(S.pc i).run, (S.pc i).pos + (S.len i + (if i = i then -rest else 0))⟩ := rfl
        rw [if_pos rfl] at e2
        have ec : (((S.grow i (-rest)).addPiece i i ((S.grow i (-rest)).endOf i) rest).first x).c = (rn S.runs (((S.grow i (-rest)).addPiece i i ((S.grow i (-rest)).endOf i) rest).pc x).run).first.c := unitR_c _ _
        have ek : (((S.grow i (-rest)).addPiece i i ((S.grow i (-rest)).endOf i) rest).first x).k = (rn S.runs (((S.grow i (-rest)).addPiece i i ((S.grow i (-rest)).endOf i) rest).pc x).run).first.k + (((S.grow i (-rest)).addPiece i i ((S.grow i (-rest)).endOf i) rest).pc x).pos := unitR_k _ _
        have fc : (S.first i).c = (rn S.runs (S.pc i).run).first.c := unitR_c _ _
        have fk : (S.first i).k = (rn S.runs (S.pc i).run).first.k + (S.pc i).pos := unitR_k _ _
        rw [ec, ek, fc, fk, hpc, if_neg hx, if_pos ex, e2]
        exact ⟨rfl, by simp only; omega⟩
      have hl2 : ((S.grow i (-rest)).addPiece i i ((S.grow i (-rest)).endOf i) rest).len x = rest := by
        rw [hlen, ex, if_neg (show ¬ S.pcs.length = i by omega), if_pos rfl, h.ordF.out _ (Nat.le_refl _)]; omega
      rw [e1.1, e1.2, hl2]
      rcases hf i (by omega) ha' with h1 | h1 | h1
      · exact .inl h1
      · exact .inr (.inl (by omega))
      · exact .inr (.inr (by omega))
  · rw [if_neg hr]
    exact hf
theorem rn_snoc {R : List Rn} {x : Rn} {r : Nat} : rn (R ++ [x]) r = if r < R.length then rn R r else if r = R.length then x else .zero := by
  unfold rn
  by_cases h : r < R.length
  · rw [if_pos h, List.getElem?_append_left h]
  · rw [if_neg h]
    by_cases e : r = R.length
    · rw [if_pos e, e, List.getElem?_append_right (Nat.le_refl _), Nat.sub_self]; rfl
    · rw [if_neg e, List.getElem?_eq_none (by simp; omega)]; rfl
/-- A piece made longer. -/
theorem Inv.growI {T : SS} (h : Inv T) {i : Nat} (hi : i < T.pcs.length) (hi0 : i ≠ 0) {u : Un} {n : Int} (hn : 1 ≤ n) (he : T.unit (T.endOf i) = u) (hk : u.k + n ≤ 9007199254740992) (hf : Free T u.c u.k n) (hs : T.total + n ≤ 281474976710656) : Inv (T.grow i n) ∧ (T.grow i n).total = T.total + n := by
  have htot : (T.grow i n).total = T.total + n := sum_grow h.ordF hi hi0 n
  have hl := h.ordF.long i
  have hlen : ∀ x, (T.grow i n).len x = T.len x + (if x = i then n else 0) := fun x => rfl
  have huc : (T.first i).c = u.c := by
    rw [← he]
    have a : (T.first i).c = (rn T.runs (T.pc i).run).first.c := unitR_c _ _
    have b : (T.unit (T.endOf i)).c = (rn T.runs (T.endOf i).run).first.c := unitR_c _ _
    rw [a, b]; rfl
  have huk : (T.first i).k + T.len i = u.k := by
    rw [← he]
    have a : (T.first i).k = (rn T.runs (T.pc i).run).first.k + (T.pc i).pos := unitR_k _ _
    have b : (T.unit (T.endOf i)).k = (rn T.runs (T.endOf i).run).first.k + (T.endOf i).pos := unitR_k _ _
    rw [a, b]
    show _ + _ + _ = (rn T.runs (T.pc i).run).first.k + ((T.pc i).pos + T.len i)
    omega
  refine ⟨⟨h.root, h.rlen, h.rmax, h.pmax, by rw [htot]; exact hs, h.runs, h.fst, h.p0, h.ordF.grow hi hi0 (by omega), h.idxF, fun x h1 h2 => ?_, ?_⟩, htot⟩
  · obtain ⟨q1, q2, q3, q4, q5⟩ := h.pcs x h1 h2
    refine ⟨q1, q2, q3, ?_, ?_⟩
    · rw [hlen]; split <;> omega
    · show _ + (T.pc x).pos + _ ≤ _
      rw [hlen]
      by_cases e : x = i
      · rw [if_pos e, e]
        have a : (T.first i).k = (rn T.runs (T.pc i).run).first.k + (T.pc i).pos := unitR_k _ _
        show (rn T.runs (T.pc i).run).first.k + (T.pc i).pos + (T.len i + n) ≤ _
        omega
      · rw [if_neg e]; exact (by omega : (rn T.runs (T.pc x).run).first.k + (T.pc x).pos + (T.len x + 0) ≤ 9007199254740992)
  · refine List.Pairwise.imp_of_mem (fun {a b} hma hmb hR => ?_) h.sorted
    have hR' : (T.first a).c < (T.first b).c ∨ ((T.first a).c = (T.first b).c ∧ (T.first a).k + T.len a ≤ (T.first b).k) := hR
    show (T.first a).c < (T.first b).c ∨ ((T.first a).c = (T.first b).c ∧ (T.first a).k + (T.grow i n).len a ≤ (T.first b).k)
    rw [hlen]
    by_cases e : a = i
    · rw [if_pos e]
      rw [e] at hR' ⊢
      have lb := (h.idxF.lab b).1 hmb
      have q4 := (h.pcs b (by omega) lb.2).2.2.2.1
      rcases hf b (by omega) lb.2 with h1 | h1 | h1 <;> omega
    · rw [if_neg e]; omega
/-- A run more, and its piece. -/
theorem Inv.newI {T : SS} (h : Inv T) {i : Nat} (hi : i < T.pcs.length) {u : Un} (hu : u.ok) (hc : 1 ≤ u.c ∧ u.c ≤ 9007199254740991) (hk : 1 ≤ u.k) {p : Sp} (hp : SpP T p) {n : Int} (hn : 1 ≤ n) (hk2 : u.k + n ≤ 9007199254740992) (hf : Free T u.c u.k n) (hs : T.total + n ≤ 281474976710656) (hl : T.pcs.length + 1 ≤ 1073741824) (hr : T.runs.length + 1 ≤ 1073741824) :
    Inv ((T.addRun u p).addPiece i (T.piece u.c u.k) ⟨T.runs.length, 0⟩ n) ∧ ((T.addRun u p).addPiece i (T.piece u.c u.k) ⟨T.runs.length, 0⟩ n).total = T.total + n := by
  have hpl := h.piece_lt u.c u.k
  have hg2 := h.ordF.add hi (lg := n) (by omega)
  have hgi' : RowF (T.pcs.length + 1) (insB (T.piece u.c u.k) T.pcs.length T.idx) (fun _ => 0) := by
    have e : (fun x => (0 : Int) + (if x = T.pcs.length then 0 else 0)) = fun _ => (0 : Int) := by funext x; split <;> rfl
    rw [← e]; exact h.idxF.add hpl (lg := 0) (by omega)
  have htot0 := sum_add h.ordF hi n
  have hD := h.down
  obtain ⟨d1, d2, d3, d4⟩ := hD.step hp.1 (d := 0) (by omega)
  obtain ⟨e1, e2, e3, e4⟩ := hD.step d3 (d := 0) (by omega)
  have hpk := (h.fst p.run).k
  have hbd : ∀ r, r < T.runs.length → 0 ≤ (rn T.runs r).far.pos ∧ (rn T.runs r).far.pos ≤ 9007199254740992 := fun r hr' => by
    by_cases h0 : r = 0
    · rw [h0, h.root]; decide
    · have := h.runs r (by omega) hr'
      exact ⟨this.2.2.2.2.1, this.2.2.2.2.2.1⟩
  have hfar : (farOf T.runs p).run < T.runs.length ∧ 0 ≤ (farOf T.runs p).pos ∧ (farOf T.runs p).pos ≤ 9007199254740992 := by
    unfold farOf
    split
    · exact ⟨e3, hbd _ d3⟩
    · exact ⟨hp.1, hp.2.1, by have := hp.2.2; omega⟩
  have hdep : 0 ≤ (rn T.runs p.run).depth ∧ (rn T.runs p.run).depth ≤ p.run := by
    refine ⟨hD.2.1 _, ?_⟩
    by_cases h0 : p.run = 0
    · rw [h0, h.root]; decide
    · exact (h.runs p.run (by omega) hp.1).2.2.2.2.2.2.2.1
  have hpr := hp.1
  have hpc : ∀ x, ((T.addRun u p).addPiece i (T.piece u.c u.k) ⟨T.runs.length, 0⟩ n).pc x = if x < T.pcs.length then T.pc x else if x = T.pcs.length then ⟨T.runs.length, 0⟩ else .zero := fun x => pc_snoc (S := T) (x := ⟨T.runs.length, 0⟩) (i := x)
  have tr : ((T.addRun u p).addPiece i (T.piece u.c u.k) ⟨T.runs.length, 0⟩ n).runs = T.runs ++ [⟨u, p, farOf T.runs p, (rn T.runs p.run).depth + 1⟩] := rfl
  have tp : ((T.addRun u p).addPiece i (T.piece u.c u.k) ⟨T.runs.length, 0⟩ n).pcs.length = T.pcs.length + 1 := by show (T.pcs ++ [_]).length = _; simp
  have tor : ((T.addRun u p).addPiece i (T.piece u.c u.k) ⟨T.runs.length, 0⟩ n).ord = insB i T.pcs.length T.ord := rfl
  have ti : ((T.addRun u p).addPiece i (T.piece u.c u.k) ⟨T.runs.length, 0⟩ n).idx = insB (T.piece u.c u.k) T.pcs.length T.idx := rfl
  have tl : ((T.addRun u p).addPiece i (T.piece u.c u.k) ⟨T.runs.length, 0⟩ n).len = fun x => T.len x + (if x = T.pcs.length then n else 0) := rfl
  generalize (T.addRun u p).addPiece i (T.piece u.c u.k) ⟨T.runs.length, 0⟩ n = Q at *
  have htot : Q.total = T.total + n := by unfold SS.total; rw [tor, tl]; exact htot0
  have hrn : ∀ r, r < T.runs.length → rn Q.runs r = rn T.runs r := fun r hr' => by rw [tr, rn_snoc, if_pos hr']
  have hrN : rn Q.runs T.runs.length = ⟨u, p, farOf T.runs p, (rn T.runs p.run).depth + 1⟩ := by rw [tr, rn_snoc, if_neg (by omega), if_pos rfl]
  have hrl : Q.runs.length = T.runs.length + 1 := by rw [tr]; simp
  have hfo : ∀ x, x < T.pcs.length → Q.first x = T.first x := fun x hx => by
    unfold SS.first SS.unit unitR
    rw [hpc, if_pos hx, hrn _ (h.pcOk hx).1]
  have hfn : Q.first T.pcs.length = u := by
    have hq : Q.pc T.pcs.length = ⟨T.runs.length, 0⟩ := by rw [hpc, if_neg (Nat.lt_irrefl _), if_pos rfl]
    unfold SS.first SS.unit unitR
    rw [hq, if_pos rfl]
    show (rn Q.runs T.runs.length).first = u
    rw [hrN]
  have hlo : ∀ x, x < T.pcs.length → Q.len x = T.len x := fun x hx => by rw [tl]; show T.len x + _ = _; rw [if_neg (by omega)]; omega
  have hln : Q.len T.pcs.length = n := by rw [tl]; show T.len _ + _ = _; rw [if_pos rfl, h.ordF.out _ (Nat.le_refl _)]; omega
  refine ⟨⟨by rw [hrn 0 h.rlen]; exact h.root, by omega, by omega, by omega, by rw [htot]; exact hs, fun r h1 h2 => ?_, fun r => ?_, by rw [hpc, if_pos h.pos]; exact h.p0, by rw [tp, tor, tl]; exact hg2, by rw [tp, ti]; exact hgi', fun x h1 h2 => ?_, ?_⟩, htot⟩
  · by_cases hr' : r < T.runs.length
    · rw [hrn r hr']; exact h.runs r h1 hr'
    · have e : r = T.runs.length := by omega
      rw [e, hrN]
      exact ⟨hp.1, hfar.1, hp.2.1, by have := hp.2.2; show p.pos ≤ _; omega, hfar.2.1, hfar.2.2, by show (0 : Int) < _ + 1; omega, by show _ + (1 : Int) ≤ _; omega, hc.1, hc.2, hk, by show u.k ≤ _; omega⟩
  · by_cases hr' : r < T.runs.length
    · rw [hrn r hr']; exact h.fst r
    · by_cases e : r = T.runs.length
      · rw [e, hrN]; exact hu
      · rw [rn_out (by omega)]
        exact ⟨by decide, by decide, by decide, by decide, by decide, by decide⟩
  · by_cases hx : x < T.pcs.length
    · obtain ⟨q1, q2, q3, q4, q5⟩ := h.pcs x h1 hx
      rw [hpc, if_pos hx, hlo x hx, hrn _ q2]
      exact ⟨q1, by omega, q3, q4, q5⟩
    · have e : x = T.pcs.length := by omega
      rw [hpc, if_neg hx, if_pos e, e, hln]
      have hrl0 := h.rlen
      refine ⟨hrl0, by show T.runs.length < _; omega, Int.le_refl _, hn, ?_⟩
      show (rn Q.runs T.runs.length).first.k + 0 + n ≤ _
      rw [hrN]
      show u.k + 0 + n ≤ _
      omega
  · rw [ti]
    have h0 : 0 ∉ T.idx := fun hx => by have := (h.idxF.lab 0).1 hx; omega
    refine pairwise_last h.idxF.nod ?_ h0 (h.mono u.c u.k) (fun x hx hh => ?_) (fun x hx hh => ?_)
    · refine List.Pairwise.imp_of_mem (fun {a b} hma hmb hR => ?_) h.sorted
      have la := ((h.idxF.lab a).1 hma).2
      have lb := ((h.idxF.lab b).1 hmb).2
      rw [hfo a la, hfo b lb, hlo a la]
      exact hR
    · have lx := (h.idxF.lab x).1 hx
      rw [hfo x lx.2, hfn, hlo x lx.2]
      rw [holds_iff] at hh
      rcases hf x (by omega) lx.2 with h1 | h1 | h1 <;> omega
    · have lx := (h.idxF.lab x).1 hx
      rw [hfo x lx.2, hfn, hln]
      have q4 := (h.pcs x (by omega) lx.2).2.2.2.1
      have hh' : ¬ ((T.first x).c < u.c ∨ ((T.first x).c = u.c ∧ (T.first x).k ≤ u.k)) := fun h' => by
        rw [holds_iff.2 h'] at hh
        cases hh
      rcases hf x (by omega) lx.2 with h1 | h1 | h1 <;> omega
theorem Inv.runI {S : SS} (h : Inv S) {u : Un} (hu : u.ok) {n : Int} (hs : S.may u n = true → S.total + n ≤ 281474976710656) (hl : S.pcs.length + 2 ≤ 1073741824) (hr : S.runs.length + 1 ≤ 1073741824) :
    Inv (S.run u n) ∧ (S.run u n).total = S.total + (if S.may u n = true then n else 0) ∧ (S.run u n).pcs.length ≤ S.pcs.length + 2 ∧ (S.run u n).runs.length ≤ S.runs.length + 1 := by
  unfold SS.run
  by_cases hm : S.may u n = true
  · rw [if_pos hm, if_pos hm]
    obtain ⟨⟨a, b⟩, c, d, e, f⟩ := may_iff.1 hm
    have hnk : 1 ≤ u.k ∧ u.k ≤ 9007199254740991 := by simpa [numOk] using b
    have hnc : 1 ≤ u.c ∧ u.c ≤ 9007199254740991 := by simpa [numOk] using a
    obtain ⟨c1, c2, c3⟩ := h.cutI (S.placeFor u) (by omega)
    have hfr := Free.cutF h c (h.free c e) (S.placeFor u)
    have hpp := h.parP hu f
    have hpp' : SpP (S.cut (S.placeFor u)) (S.parentOf u).1 := by
      unfold SpP
      rw [cut_runs]
      exact hpp
    have hal : S.cutAt (S.placeFor u) < (S.cut (S.placeFor u)).pcs.length := Nat.lt_of_lt_of_le (h.atOk (S.placeFor u - 1)).1 (cut_pcs S _)
    have hss := hs hm
    show Inv (S.lay (S.placeFor u) u (S.parentOf u).1 n) ∧ (S.lay (S.placeFor u) u (S.parentOf u).1 n).total = _ ∧ (S.lay (S.placeFor u) u (S.parentOf u).1 n).pcs.length ≤ _ ∧ (S.lay (S.placeFor u) u (S.parentOf u).1 n).runs.length ≤ _
    unfold SS.lay
    by_cases he : (S.cut (S.placeFor u)).unit ((S.cut (S.placeFor u)).endOf (S.cutAt (S.placeFor u))) = u
    · rw [if_pos he]
      have hi0 : S.cutAt (S.placeFor u) ≠ 0 := fun e0 => by
        rw [e0] at he
        have e1 : (S.cut (S.placeFor u)).endOf 0 = .zero := by unfold SS.endOf; rw [c1.p0, c1.ordF.zero]; rfl
        rw [e1] at he
        have : ((S.cut (S.placeFor u)).unit .zero).c = (rn (S.cut (S.placeFor u)).runs 0).first.c := unitR_c _ _
        rw [he, c1.root] at this
        have : u.c = 0 := this
        omega
      obtain ⟨g1, g2⟩ := c1.growI hal hi0 c he (by omega) hfr (by rw [c2]; exact hss)
      refine ⟨g1, by rw [g2, c2], by show (S.cut (S.placeFor u)).pcs.length ≤ _; omega, ?_⟩
      show (S.cut (S.placeFor u)).runs.length ≤ _
      rw [cut_runs]; omega
    · rw [if_neg he]
      have hrl : (S.cut (S.placeFor u)).runs.length = S.runs.length := by rw [cut_runs]
      obtain ⟨g1, g2⟩ := c1.newI hal hu hnc hnk.1 hpp' c (by omega) hfr (by rw [c2]; exact hss) (by omega) (by omega)
      rw [hrl] at g1 g2
      refine ⟨g1, by rw [g2, c2], ?_, ?_⟩
      · show ((S.cut (S.placeFor u)).pcs ++ [_]).length ≤ _
        rw [List.length_append]
        show _ + 1 ≤ _
        omega
      · show ((S.cut (S.placeFor u)).runs ++ [_]).length ≤ _
        rw [List.length_append, cut_runs]
        exact Nat.le_refl _
  · rw [if_neg hm, if_neg hm]
    exact ⟨h, by omega, by omega, by omega⟩
end Go.Proofs.YtnilikomoapcaaaGreat
