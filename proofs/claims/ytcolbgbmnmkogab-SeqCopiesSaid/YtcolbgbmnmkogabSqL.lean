/- What is so of a sequence stays so (no Go in it). -/
import Derived.Test.YtcolbgbmnmkogabSqK
namespace Go.Proofs.Ytcolbgbmnmkogab
set_option linter.unusedVariables false
set_option linter.unusedSimpArgs false

/-- The same runs, pieces of other lengths, one piece more perhaps: what has to be shown. -/
theorem first_eq {S T : SS} (hr : T.runs = S.runs) {i : Nat} (hp : T.pc i = S.pc i) : T.first i = S.first i := by
  unfold SS.first SS.unit
  rw [hr, hp]
theorem Inv.cutI {S : SS} (h : Inv S) (p : Int) (hl : S.pcs.length + 1 ≤ 1073741824) : Inv (S.cut p) ∧ (S.cut p).total = S.total ∧ (S.cut p).pcs.length ≤ S.pcs.length + 1 := by
  unfold SS.cut
  by_cases hr : 0 < S.restAt p
  · rw [if_pos hr]
    obtain ⟨ha, hb, hc⟩ := h.atOk (p - 1)
    have hrd : S.restAt p = S.len (S.cutAt p) - (atF S.len S.ord (p - 1)).2 - 1 := rfl
    have hi0 : S.cutAt p ≠ 0 := fun e => by
      rw [e, h.ordF.zero] at hrd
      omega
    have ha' : S.cutAt p < S.pcs.length := ha
    have hb' : 0 ≤ (atF S.len S.ord (p - 1)).2 := hb
    have hpo := h.pcs (S.cutAt p) (by omega) ha'
    generalize S.restAt p = rest at *
    generalize S.cutAt p = i at *
    generalize (atF S.len S.ord (p - 1)).2 = wi at *
    have hg1 : RowF S.pcs.length S.ord (S.grow i (-rest)).len := h.ordF.grow ha' hi0 (m := -rest) (by omega)
    have hg2 := hg1.add ha' (lg := rest) (by omega)
    have hgi := h.idxF.add ha' (lg := 0) (by omega)
    have hgi' : RowF (S.pcs.length + 1) (insB i S.pcs.length S.idx) (fun _ => 0) := by
      have e : (fun x => (0 : Int) + (if x = S.pcs.length then 0 else 0)) = fun _ => (0 : Int) := by funext x; split <;> rfl
      rw [← e]; exact hgi
    have hlen : ∀ x, ((S.grow i (-rest)).addPiece i i ((S.grow i (-rest)).endOf i) rest).len x = S.len x + (if x = i then -rest else 0) + (if x = S.pcs.length then rest else 0) := fun x => rfl
    have hef : (S.grow i (-rest)).endOf i = ⟨(S.pc i).run, (S.pc i).pos + (S.len i - rest)⟩ := by
      unfold SS.endOf
      show (⟨(S.pc i).run, (S.pc i).pos + (S.len i + (if i = i then -rest else 0))⟩ : Sp) = _
      rw [if_pos rfl, ← Int.sub_eq_add_neg]
    have hpc : ∀ x, ((S.grow i (-rest)).addPiece i i ((S.grow i (-rest)).endOf i) rest).pc x = if x < S.pcs.length then S.pc x else if x = S.pcs.length then ⟨(S.pc i).run, (S.pc i).pos + (S.len i - rest)⟩ else .zero := fun x => by
      rw [← hef]
      exact pc_snoc (S := S) (x := (S.grow i (-rest)).endOf i) (i := x)
    generalize hT : (S.grow i (-rest)).addPiece i i ((S.grow i (-rest)).endOf i) rest = T at *
    have tr : T.runs = S.runs := by rw [← hT]; rfl
    have tp : T.pcs.length = S.pcs.length + 1 := by rw [← hT]; show (S.pcs ++ [_]).length = _; simp
    have tor : T.ord = insB i S.pcs.length S.ord := by rw [← hT]; rfl
    have ti : T.idx = insB i S.pcs.length S.idx := by rw [← hT]; rfl
    have tl : T.len = fun x => (S.grow i (-rest)).len x + (if x = S.pcs.length then rest else 0) := by rw [← hT]; rfl
    have htot : T.total = S.total := by
      unfold SS.total
      rw [tor, tl, sum_add hg1 ha' rest]
      have := sum_grow h.ordF ha' hi0 (-rest)
      show sumF (S.grow i (-rest)).len S.ord + rest = _
      rw [show sumF (S.grow i (-rest)).len S.ord = sumF S.len S.ord + -rest from this]
      omega
    have hfo : ∀ x, x < S.pcs.length → T.first x = S.first x := fun x hx => first_eq tr (by rw [hpc, if_pos hx])
    have hfn : (T.first S.pcs.length).c = (S.first i).c ∧ (T.first S.pcs.length).k = (S.first i).k + (S.len i - rest) := by
      have e : T.pc S.pcs.length = ⟨(S.pc i).run, (S.pc i).pos + (S.len i - rest)⟩ := by rw [hpc, if_neg (by omega), if_pos rfl]
      unfold SS.first SS.unit
      rw [unitR_c, unitR_k, unitR_c, unitR_k, tr, e]
      exact ⟨rfl, by simp only; omega⟩
    have hli : T.len i = S.len i - rest := by rw [hlen, if_pos rfl, if_neg (by omega)]; omega
    have hln : T.len S.pcs.length = rest := by rw [hlen, if_neg (by omega), if_pos rfl, h.ordF.out _ (Nat.le_refl _)]; omega
    have hlo : ∀ x, x ≠ i → x < S.pcs.length → T.len x = S.len x := fun x h1 h2 => by rw [hlen, if_neg h1, if_neg (by omega)]; omega
    refine ⟨⟨by rw [tr]; exact h.root, by rw [tr]; exact h.rlen, by rw [tr]; exact h.rmax, by rw [tp]; exact hl, by rw [htot]; exact h.smax, by rw [tr]; exact h.runs, by rw [tr]; exact h.fst, by rw [hpc, if_pos h.pos]; exact h.p0, by rw [tp, tor, tl]; exact hg2, by rw [tp, ti]; exact hgi', fun x h1 h2 => ?_, ?_⟩, htot, by omega⟩
    · rw [tp] at h2
      by_cases hx : x < S.pcs.length
      · obtain ⟨q1, q2, q3, q4, q5⟩ := h.pcs x h1 hx
        rw [hpc, if_pos hx, tr]
        refine ⟨q1, q2, q3, ?_, ?_⟩
        · by_cases e : x = i
          · rw [e, hli]; omega
          · rw [hlo x e hx]; exact q4
        · by_cases e : x = i
          · rw [e, hli]; rw [e] at q5; omega
          · rw [hlo x e hx]; exact q5
      · have e : x = S.pcs.length := by omega
        obtain ⟨q1, q2, q3, q4, q5⟩ := hpo
        rw [hpc, if_neg hx, if_pos e, tr]
        rw [e, hln]
        exact ⟨q1, q2, by simp only; omega, by omega, by simp only; omega⟩
    · rw [ti]
      have hm : i ∈ S.idx := (h.idxF.lab i).2 ⟨by omega, ha'⟩
      have h0 : 0 ∉ S.idx := fun hx => by have := (h.idxF.lab 0).1 hx; omega
      have base : S.idx.Pairwise fun a b => (T.first a).c < (T.first b).c ∨ ((T.first a).c = (T.first b).c ∧ (T.first a).k + T.len a ≤ (T.first b).k) := by
        refine h.sorted.imp_of_mem fun {a b} hma hmb hR => ?_
        have la := ((h.idxF.lab a).1 hma).2
        have lb := ((h.idxF.lab b).1 hmb).2
        rw [hfo a la, hfo b lb]
        by_cases e : a = i
        · rw [e, hli]; rw [e] at hR; omega
        · rw [hlo a e la]; exact hR
      refine pairwise_ins h.idxF.nod base (.inr hm) h0 (fun x hx hh => ?_) (fun x hx hh => ?_)
      · have lx := ((h.idxF.lab x).1 hx).2
        rw [hfo x lx, hfn.1, hfn.2]
        rcases hh with e | ⟨_, A, C, e, hC⟩
        · rw [e, hli]; exact .inr ⟨rfl, by omega⟩
        · have hs := h.sorted
          rw [e] at hs
          have hR := (List.pairwise_cons.1 (List.pairwise_append.1 hs).2.1).1 i hC
          have hne : x ≠ i := fun e' => by
            have hn := h.idxF.nod
            rw [e, e'] at hn
            exact (List.nodup_cons.1 (List.nodup_append.1 hn).2.1).1 hC
          rw [hlo x hne lx]
          omega
      · have lx := ((h.idxF.lab x).1 hx).2
        rcases hh with e | ⟨A, C, e, hC⟩
        · exact absurd e hi0
        · have hs := h.sorted
          rw [e] at hs
          have hR := (List.pairwise_cons.1 (List.pairwise_append.1 hs).2.1).1 x hC
          rw [hfo x lx, hfn.1, hfn.2, hln]
          omega
  · rw [if_neg hr]
    exact ⟨h, rfl, by omega⟩
end Go.Proofs.Ytcolbgbmnmkogab
