/- What is so of a sequence stays so (no Go in it). -/
import Derived.Test.YtnilikomoapcaaaGreatPart11
import Derived.Test.YtnilikomoapcaaaGreatPart8
namespace Go.Proofs.YtnilikomoapcaaaGreat
set_option linter.unusedVariables false
set_option linter.unusedSimpArgs false

/-- The same runs, pieces of other lengths, one piece more perhaps: what has to be shown. -/
theorem first_eq {S T : SS} (hr : T.runs = S.runs) {i : Nat} (hp : T.pc i = S.pc i) : T.first i = S.first i := by
  unfold SS.first SS.unit
  rw [hr, hp]
theorem Inv.cutI {S : SS} (h : Inv S) (p : Int) (hl : S.pcs.length + 1 ≤ 1073741824) : Inv (S.cut p) ∧ (S.cut p).total = S.total ∧ (S.cut p).pcs.length ≤ S.pcs.length + 1 := by
  unfold SS.cut
  by_cases hr : 0 < S.restAt p
  · rw [if_pos hr]
    obtain ⟨ha, hb, hc⟩ := h.atOk (p - 1)
    have hrd : S.restAt p = S.len (S.cutAt p) - (atF S.len S.ord (p - 1)).2 - 1 := rfl
    have hi0 : S.cutAt p ≠ 0 := fun e => by
      rw [e, h.ordF.zero] at hrd
      omega
    have ha' : S.cutAt p < S.pcs.length := ha
    have hb' : 0 ≤ (atF S.len S.ord (p - 1)).2 := hb
    have hpo := h.pcs (S.cutAt p) (by omega) ha'
    generalize S.restAt p = rest at *
    generalize S.cutAt p = i at *
    generalize (atF S.len S.ord (p - 1)).2 = wi at *
    have hg1 : RowF S.pcs.length S.ord (S.grow i (-rest)).len := h.ordF.grow ha' hi0 (m := -rest) (by omega)
    have hg2 := hg1.add ha' (lg := rest) (by omega)
    have hgi := h.idxF.add ha' (lg := 0) (by omega)
    have hgi' : RowF (S.pcs.length + 1) (insB i S.pcs.length S.idx) (fun _ => 0) := by
      have e : (fun x => (0 : Int) + (if x = S.pcs.length then 0 else 0)) = fun _ => (0 : Int) := by funext x; split <;> rfl
      rw [← e]; exact hgi
    have hlen : ∀ x, ((S.grow i (-rest)).addPiece i i ((S.grow i (-rest)).endOf i) rest).len x = S.len x + (if x = i then -rest else 0) + (if x = S.pcs.length then rest else 0) := fun x => rfl
    have hef : (S.grow i (-rest)).endOf i = ⟨(S.pc i).run, (S.pc i).pos + (S.len i - rest)⟩ := by
      unfold SS.endOf
      show (⟨(S.pc i).run, (S.pc i).pos + (S.len i + (if i = i then -rest else 0))⟩ : Sp) = _
      rw [if_pos rfl, ← Int.sub_eq_add_neg]
    have hpc : ∀ x, ((S.grow i (-rest)).addPiece i i ((S.grow i (-rest)).endOf i) rest).pc x = if x < S.pcs.length then S.pc x else if x = S.pcs.length then ⟨(S.pc i).run, (S.pc i).pos + (S.len i - rest)⟩ else .zero := fun x => by
      rw [← hef]
      exact pc_snoc (S := S) (x := (S.grow i (-rest)).endOf i) (i := x)
    generalize hT : (S.grow i (-rest)).addPiece i i ((S.grow i (-rest)).endOf i) rest = T at *
    have tr : T.runs = S.runs := by rw [← hT]; rfl
    have tp : T.pcs.length = S.pcs.length + 1 := by rw [← hT]; show (S.pcs ++ [_]).length = _; simp
    have tor : T.ord = insB i S.pcs.length S.ord := by rw [← hT]; rfl
    have ti : T.idx = insB i S.pcs.length S.idx := by rw [← hT]; rfl
    have tl : T.len = fun x => (S.grow i (-rest)).len x + (if x = S.pcs.length then rest else 0) := by rw [← hT]; rfl
    have htot : T.total = S.total := by
      unfold SS.total
      rw [tor, tl, sum_add hg1 ha' rest]
      have := sum_grow h.ordF ha' hi0 (-rest)
      show sumF (S.grow i (-rest)).len S.ord + rest = _
      rw [show sumF (S.grow i (-rest)).len S.ord = sumF S.len S.ord + -rest from this]
      omega
    have hfo : ∀ x, x < S.pcs.length → T.first x = S.first x := fun x hx => first_eq tr (by rw [hpc, if_pos hx])
    have hfn : (T.first S.pcs.length).c = (S.first i).c ∧ (T.first S.pcs.length).k = (S.first i).k + (S.len i - rest) := by
      have e : T.pc S.pcs.length = ⟨(S.pc i).run, (S.pc i).pos + (S.len i - rest)⟩ := by rw [hpc, if_neg (by omega), if_pos rfl]
      unfold SS.first SS.unit
      rw [unitR_c, unitR_k, unitR_c, unitR_k, tr, e]
      exact ⟨rfl, by simp only; omega⟩
    have hli : T.len i = S.len i - rest := by rw [hlen, if_pos rfl, if_neg (by omega)]; omega
    have hln : T.len S.pcs.length = rest := by rw [hlen, if_neg (by omega), if_pos rfl, h.ordF.out _ (Nat.le_refl _)]; omega
    have hlo : ∀ x, x ≠ i → x < S.pcs.length → T.len x = S.len x := fun x h1 h2 => by rw [hlen, if_neg h1, if_neg (by omega)]; omega
    refine ⟨⟨by rw [tr]; exact h.root, by rw [tr]; exact h.rlen, by rw [tr]; exact h.rmax, by rw [tp]; exact hl, by rw [htot]; exact h.smax, by rw [tr]; exact h.runs, by rw [tr]; exact h.fst, by rw [hpc, if_pos h.pos]; exact h.p0, by rw [tp, tor, tl]; exact hg2, by rw [tp, ti]; exact hgi', fun x h1 h2 => ?_, ?_⟩, htot, by omega⟩
    · rw [tp] at h2
      by_cases hx : x < S.pcs.length
      · obtain ⟨q1, q2, q3, q4, q5⟩ := h.pcs x h1 hx
        rw [hpc, if_pos hx, tr]
        refine ⟨q1, q2, q3, ?_, ?_⟩
        · by_cases e : x = i
          · rw [e, hli]; omega
          · rw [hlo x e hx]; exact q4
        · by_cases e : x = i
          · rw [e, hli]; rw [e] at q5; omega
          · rw [hlo x e hx]; exact q5
      · have e : x = S.pcs.length := by omega
        obtain ⟨q1, q2, q3, q4, q5⟩ := hpo
        rw [hpc, if_neg hx, if_pos e, tr]
        rw [e, hln]
        exact ⟨q1, q2, by simp only; omega, by omega, by simp only; omega⟩
    · rw [ti]
      have hm : i ∈ S.idx := (h.idxF.lab i).2 ⟨by omega, ha'⟩
      have h0 : 0 ∉ S.idx := fun hx => by have := (h.idxF.lab 0).1 hx; omega
      have base : S.idx.Pairwise fun a b => (T.first a).c < (T.first b).c ∨ ((T.first a).c = (T.first b).c ∧ (T.first a).k + T.len a ≤ (T.first b).k) := by
        refine h.sorted.imp_of_mem fun {a b} hma hmb hR => ?_
        have la := ((h.idxF.lab a).1 hma).2
        have lb := ((h.idxF.lab b).1 hmb).2
        rw [hfo a la, hfo b lb]
        by_cases e : a = i
        · rw [e, hli]; rw [e] at hR; omega
        · rw [hlo a e la]; exact hR
      refine pairwise_ins h.idxF.nod base (.inr hm) h0 (fun x hx hh => ?_) (fun x hx hh => ?_)
      · have lx := ((h.idxF.lab x).1 hx).2
        rw [hfo x lx, hfn.1, hfn.2]
        rcases hh with e | ⟨_, A, C, e, hC⟩
        · rw [e, hli]; exact .inr ⟨rfl, by omega⟩
        · have hs := h.sorted
          rw [e] at hs
          have hR := (List.pairwise_cons.1 (List.pairwise_append.1 hs).2.1).1 i hC
          have hne : x ≠ i := fun e' => by
            have hn := h.idxF.nod
            rw [e, e'] at hn
            exact (List.nodup_cons.1 (List.nodup_append.1 hn).2.1).1 hC
          rw [hlo x hne lx]
          omega
      · have lx := ((h.idxF.lab x).1 hx).2
        rcases hh with e | ⟨A, C, e, hC⟩
        · exact absurd e hi0
        · have hs := h.sorted
          rw [e] at hs
          have hR := (List.pairwise_cons.1 (List.pairwise_append.1 hs).2.1).1 x hC
          rw [hfo x lx, hfn.1, hfn.2, hln]
          omega
  · rw [if_neg hr]
    exact ⟨h, rfl, by omega⟩
end Go.Proofs.YtnilikomoapcaaaGreat

/- What is so of a sequence stays so behind a run that is laid (no Go in it). -/
namespace Go.Proofs.YtnilikomoapcaaaGreat
set_option linter.unusedVariables false
set_option linter.unusedSimpArgs false

theorem insB_last {n : Nat} : ∀ {A B : List Nat}, (A ++ B).Nodup → 0 ∉ A → insB (A.getLastD 0) n (A ++ B) = A ++ n :: B := by
  intro A B hn h0
  rcases List.eq_nil_or_concat A with rfl | ⟨A0, y, rfl⟩
  · exact insB_zero n B
  · have e : (A0.concat y).getLastD 0 = y := by rw [List.concat_eq_append]; exact getLastD_mid A0 [] y 0
    rw [e, List.concat_eq_append]
    rw [List.concat_eq_append] at hn h0
    have hy : y ∉ A0 := fun hx => (List.nodup_append.1 (List.nodup_append.1 hn).1).2.2 y hx y (by simp) rfl
    rw [List.append_assoc, List.append_assoc]
    exact insB_of (fun e => h0 (by simp [e])) hy
theorem pairwise_last {R : Nat → Nat → Prop} {p : Nat → Bool} {n : Nat} {l : List Nat} (hn : l.Nodup) (hp : l.Pairwise R) (h0 : 0 ∉ l) (hm : ∀ x ∈ l.dropWhile p, p x = false) (h1 : ∀ x ∈ l, p x = true → R x n) (h2 : ∀ x ∈ l, p x = false → R n x) : (insB (lastF p l) n l).Pairwise R := by
  have e := List.takeWhile_append_dropWhile (p := p) (l := l)
  have ht : ∀ x ∈ l.takeWhile p, p x = true := fun x hx => List.all_eq_true.1 (List.all_takeWhile (p := p) (l := l)) x hx
  have h0' : 0 ∉ l.takeWhile p := fun hx => h0 ((List.takeWhile_sublist p).mem hx)
  have k : insB (lastF p l) n l = l.takeWhile p ++ n :: l.dropWhile p := by
    have := insB_last (n := n) (A := l.takeWhile p) (B := l.dropWhile p) (by rw [e]; exact hn) h0'
    rw [e] at this
    exact this
  rw [k]
  rw [← e] at hp
  obtain ⟨p1, p2, p3⟩ := List.pairwise_append.1 hp
  refine List.pairwise_append.2 ⟨p1, List.pairwise_cons.2 ⟨fun x hx => h2 x ((List.dropWhile_sublist p).mem hx) (hm x hx), p2⟩, fun x hx y hy => ?_⟩
  rcases List.mem_cons.1 hy with rfl | hy
  · exact h1 x ((List.takeWhile_sublist p).mem hx) (ht x hx)
  · exact p3 x hx y hy
/-- None of these ids is there. -/
def Free (S : SS) (c k n : Int) : Prop := ∀ x, 0 < x → x < S.pcs.length → (S.first x).c ≠ c ∨ (S.first x).k + S.len x ≤ k ∨ k + n ≤ (S.first x).k
theorem Inv.free {S : SS} (h : Inv S) {c k n : Int} (hn : 1 ≤ n) (hf : S.hasAny c k n = false) : Free S c k n := by
  intro x hx0 hxl
  have hm := h.mono c (k + (n - 1))
  unfold SS.hasAny at hf
  have hf' := of_decide_eq_false hf
  by_cases hxc : (S.first x).c = c
  · right
    by_cases hh : S.holds c (k + (n - 1)) x = true
    · left
      have hxi : x ∈ S.idx := (h.idxF.lab x).2 ⟨hx0, hxl⟩
      have hxt : x ∈ S.idx.takeWhile (S.holds c (k + (n - 1))) := by
        have e := List.takeWhile_append_dropWhile (p := S.holds c (k + (n - 1))) (l := S.idx)
        rw [← e] at hxi
        rcases List.mem_append.1 hxi with h' | h'
        · exact h'
        · exact absurd (hm x h') (by rw [hh]; simp)
      -- x is the piece that is found, or ahead of it
      have hpl : S.piece c (k + (n - 1)) = (S.idx.takeWhile (S.holds c (k + (n - 1)))).getLastD 0 := rfl
      have hs := h.sorted
      rw [← List.takeWhile_append_dropWhile (p := S.holds c (k + (n - 1))) (l := S.idx)] at hs
      have hs1 := (List.pairwise_append.1 hs).1
      generalize S.idx.takeWhile (S.holds c (k + (n - 1))) = A at *
      rcases List.eq_nil_or_concat A with rfl | ⟨A0, y, rfl⟩
      · cases hxt
      · have e : (A0.concat y).getLastD 0 = y := by rw [List.concat_eq_append]; exact getLastD_mid A0 [] y 0
        rw [e] at hpl
        rw [hpl] at hf'
        rw [List.concat_eq_append] at hxt hs1
        have hle : ∀ i, 0 ≤ S.len i := h.ordF.long
        have hc' := h.piece_le c (k + (n - 1))
        rcases List.mem_append.1 hxt with h' | h'
        · have hR := (List.pairwise_append.1 hs1).2.2 x h' y (by simp)
          have := hle y
          have hyh : S.holds c (k + (n - 1)) y = true := by
            rcases lastF_mem (p := S.holds c (k + (n - 1))) (l := S.idx) with e' | ⟨_, e'⟩
            · have : S.piece c (k + (n - 1)) = 0 := e'
              rw [hpl] at this
              subst this
              have := (h.idxF.lab 0).1
              exfalso
              have h00 : (0 : Nat) ∈ S.idx := by
                have hs2 := h.first0
                rw [hs2] at hR
                have := h.first_nn x
                rcases hR with hR | ⟨hR, hR2⟩
                · exact absurd hR (by show ¬ _ < (0 : Int); omega)
                · have h3 := h.firstOk hxl
                  have h4 := (h.pcs x hx0 hxl).2.2.2.1
                  exact absurd hR2 (by show ¬ _ + _ ≤ (0 : Int); omega)
              have := (h.idxF.lab 0).1 h00
              omega
            · have : S.holds c (k + (n - 1)) (S.piece c (k + (n - 1))) = true := e'
              rw [hpl] at this
              exact this
          rw [holds_iff] at hyh
          omega
        · have e' : x = y := by simpa using h'
          rw [e'] at hxc ⊢
          omega
    · right
      have hh' : S.holds c (k + (n - 1)) x = false := by simpa using hh
      have : ¬ ((S.first x).c < c ∨ ((S.first x).c = c ∧ (S.first x).k ≤ k + (n - 1))) := fun h' => by
        rw [holds_iff.2 h'] at hh'
        cases hh'
      omega
  · exact .inl hxc
end Go.Proofs.YtnilikomoapcaaaGreat

/- Package seq: one more piece, one more run. -/
namespace Go.Proofs.YtnilikomoapcaaaGreat
open Go.RowKit Go.Maps
set_option linter.unusedVariables false
set_option linter.unusedSimpArgs false
set_option maxRecDepth 100000

theorem step_append {w w' : World} {ops : Array Oper} {o : Oper} {a : Act} {K : Act → World → Prop} {Q : Exit → Act → World → Prop} {E : Prop} (t : Nat) (hw : Region.wanted o (yielded ops a.tmps) = true) (s x : Operand)
    (ho : o.op = .call { callee := .builtin .append, args := #[s, x], argTypes := #[t, t] }) (v y v' : Value) (hs : a.eval s = v) (hx : a.eval x = y)
    (hrun : (Builtin.append_ #[t, t] o.type #[v, y]).run Tryz.prog w = .ok v' w') (h : K (a.put o.dst v') w') :
    if Region.wanted o (yielded ops a.tmps) = true then Oper.wp Tryz.prog o a w K Q else E := by
  rw [if_pos hw]
  unfold Oper.wp
  simp [execOp, ho, resolve, invoke, builtin, hs, hx, hrun, Result.andThen]
  exact h
theorem cellsP_one (l : List Sp) : ∀ u ∈ l.flatMap cellSp, u.oneCell' = true := by
  intro u hu
  obtain ⟨f, _, hf⟩ := List.mem_flatMap.1 hu
  simp only [cellSp, List.mem_cons, List.not_mem_nil, or_false] at hf
  rcases hf with rfl | rfl <;> rfl
theorem cellsR_one (l : List Rn) : ∀ u ∈ l.flatMap cellRn, u.oneCell' = true := by
  intro u hu
  obtain ⟨f, _, hf⟩ := List.mem_flatMap.1 hu
  simp only [cellRn, List.mem_cons, List.not_mem_nil, or_false] at hf
  rcases hf with rfl | rfl | rfl | rfl | rfl | rfl | rfl | rfl | rfl | rfl | rfl <;> rfl
theorem infoP : (Tryz.prog.info? 64).map (fun i => (i.zero, i.size, i.bytes)) = some (some (.agg #[iV 0, u64 0]), 2, 16) := by kernel_rfl
theorem infoR : (Tryz.prog.info? 66).map (fun i => (i.zero, i.size, i.bytes)) = some (some (.agg #[u64 0, u64 0, u64 0, u64 0, u64 0, u64 0, iV 0, u64 0, iV 0, u64 0, iV 0]), 11, 88) := by kernel_rfl
abbrev rnO (r : Rn) : Obj := .cells #[u64 r.first.c, u64 r.first.k, u64 r.first.lc, u64 r.first.lk, u64 r.first.rc, u64 r.first.rk, iV (r.par.run : Int), u64 r.par.pos, iV (r.far.run : Int), u64 r.far.pos, iV r.depth] 66
abbrev spO' (x : Sp) : Obj := .cells #[iV (x.run : Int), u64 x.pos] 64
theorem append_sp {w : World} {b k g cap : Nat} {L : List Sp} (x : Sp) (h : PcsAt w b k g cap L) (hl : L.length ≤ 1073741824) :
    ∃ g' cap' w', (Builtin.append_ #[68, 68] 68 #[.slice (some ⟨g, 0, none⟩) L.length cap, .slice (some ⟨w.heap.size, 0, none⟩) 1 1]).run Tryz.prog (w.alloc (spO' x)) = .ok (.slice (some ⟨g', 0, none⟩) (L.length + 1) cap') w' ∧
      PcsAt (w'.setCell ⟨b, k, none⟩ (.slice (some ⟨g', 0, none⟩) (L.length + 1) cap')) b k g' cap' (L ++ [x]) ∧ AddF w (w'.setCell ⟨b, k, none⟩ (.slice (some ⟨g', 0, none⟩) (L.length + 1) cap')) b k g ∧ (g' = g ∨ w.heap.size ≤ g') ∧ (∃ v, w'.cell? ⟨b, k, none⟩ = some v) ∧ w'.heap[b]? = w.heap[b]? := by
  obtain ⟨i0, hi, hz0, hz1, hz2⟩ := info_parts infoP
  obtain ⟨cur, c1, c2, c3, c4, c5⟩ := h.row
  have hg := h.lt
  have hb : b < w.heap.size := World.block_lt_of_cell? _ _ h.cell
  have hgA : (w.alloc (spO' x)).heap[g]? = some (.cells cur 64 (0, 0)) := by rw [Below.heap_alloc _ _ _ hg]; exact c1
  have hown : (w.alloc (spO' x)).ownsRow 0 64 2 (.slice (some ⟨g, 0, none⟩) L.length cap) L.length (L.flatMap cellSp) := ⟨flat_len cellSp 2 cellSp_len L, .inr ⟨g, cap, cur, rfl, Nat.zero_le _, hgA, c3, by unfold maxLen; omega, c2, c5⟩⟩
  have hcl : ∀ j u, ([x].flatMap cellSp)[j]? = some u → (w.alloc (spO' x)).cell? ((⟨w.heap.size, 0, none⟩ : Addr).add j) = some u := by
    intro j u hu
    rw [addr_addH, Nat.zero_add, cell_of_block (heap_alloc_new w (spO' x))]
    have : ([x].flatMap cellSp)[j]? = (#[iV (x.run : Int), u64 x.pos] : Array Value)[j]? := by simp [cellSp]
    rw [← this]; exact hu
  obtain ⟨v', w', hrun, hown', hgr, _, hat⟩ := run_append_own_at (w.alloc (spO' x)) 0 68 68 64 i0 _ 2 16 Tryz.underlying68 hi hz0 hz1 hz2 rfl (by decide) (.slice (some ⟨g, 0, none⟩) L.length cap) L.length (L.flatMap cellSp) hown ⟨w.heap.size, 0, none⟩ 1 1 ([x].flatMap cellSp) (flat_len cellSp 2 cellSp_len [x]) hcl (cellsP_one [x]) (by unfold maxLen; omega) (by omega) (Nat.zero_le _)
  rcases hown'.2 with ⟨_, h9⟩ | ⟨g', cap', cur', rfl, _, hg', d1, d2, d3, d4⟩
  · omega
  have hat' : g' = g ∨ g' = (w.alloc (spO' x)).heap.size := by simpa [Value.ownBlock] using hat
  have hsz : (w.alloc (spO' x)).heap.size = w.heap.size + 1 := by simp
  have hbg' : b ≠ g' := by
    rcases hat' with e | e
    · rw [e]; exact h.ne
    · omega
  have hold : ∀ x, x < w.heap.size → x ≠ g → w'.heap[x]? = w.heap[x]? := fun x hx hxg => by
    rw [hgr.block x (by omega) (by simp [Value.ownBlock]; omega)]
    exact Below.heap_alloc _ _ _ hx
  have hbo : w'.heap[b]? = w.heap[b]? := hold b hb h.ne
  have hcb : w'.cell? ⟨b, k, none⟩ = w.cell? ⟨b, k, none⟩ := World.cell?_of_block hbo
  refine ⟨g', cap', w', hrun, ⟨?_, hbg', cur', ?_, d3, by simpa using d1, by unfold maxLen at d2; omega, ?_⟩, ⟨?_, ?_, ?_, ?_, ?_, ?_, ?_⟩, ?_, ⟨_, by rw [hcb]; exact h.cell⟩, hbo⟩
  · rw [List.length_append]
    exact World.cell?_setCell_same' w' ⟨b, k, none⟩ _ (by rw [hcb, h.cell]; rfl)
  · rw [Below.heap_setCell _ _ _ _ (Ne.symm hbg')]; exact hg'
  · rw [List.length_append, List.flatMap_append]; exact d4
  · exact hgr.os
  · exact hgr.tape
  · exact hgr.output
  · have := hgr.size
    simp only [World.setCell, World.alloc] at this ⊢
    simp at this ⊢
    omega
  · intro x hx hxg hxb
    rw [Below.heap_setCell _ _ _ _ hxb]
    exact hold x hx hxg
  · intro j hj
    have hne : (⟨b, k, none⟩ : Addr) ≠ ⟨b, j, none⟩ := fun e => by simp only [Addr.mk.injEq] at e; exact hj e.2.1.symm
    exact (World.cell?_setCell_other w' _ _ _ hne).trans (World.cell?_of_block hbo)
  · intro c t fr hb'
    exact ⟨_, heap_setCell_same _ _ _ _ (hbo.trans hb')⟩
  · rcases hat' with e | e
    · exact .inl e
    · exact .inr (by omega)
theorem append_rn {w : World} {b k g cap : Nat} {L : List Rn} (x : Rn) (h : RunsAt w b k g cap L) (hl : L.length ≤ 1073741824) :
    ∃ g' cap' w', (Builtin.append_ #[67, 67] 67 #[.slice (some ⟨g, 0, none⟩) L.length cap, .slice (some ⟨w.heap.size, 0, none⟩) 1 1]).run Tryz.prog (w.alloc (rnO x)) = .ok (.slice (some ⟨g', 0, none⟩) (L.length + 1) cap') w' ∧
      RunsAt (w'.setCell ⟨b, k, none⟩ (.slice (some ⟨g', 0, none⟩) (L.length + 1) cap')) b k g' cap' (L ++ [x]) ∧ AddF w (w'.setCell ⟨b, k, none⟩ (.slice (some ⟨g', 0, none⟩) (L.length + 1) cap')) b k g ∧ (g' = g ∨ w.heap.size ≤ g') ∧ (∃ v, w'.cell? ⟨b, k, none⟩ = some v) ∧ w'.heap[b]? = w.heap[b]? := by
  obtain ⟨i0, hi, hz0, hz1, hz2⟩ := info_parts infoR
  obtain ⟨cur, c1, c2, c3, c4, c5⟩ := h.row
  have hg := h.lt
  have hb : b < w.heap.size := World.block_lt_of_cell? _ _ h.cell
  have hgA : (w.alloc (rnO x)).heap[g]? = some (.cells cur 66 (0, 0)) := by rw [Below.heap_alloc _ _ _ hg]; exact c1
  have hown : (w.alloc (rnO x)).ownsRow 0 66 11 (.slice (some ⟨g, 0, none⟩) L.length cap) L.length (L.flatMap cellRn) := ⟨flat_len cellRn 11 cellRn_len L, .inr ⟨g, cap, cur, rfl, Nat.zero_le _, hgA, c3, by unfold maxLen; omega, c2, c5⟩⟩
  have hcl : ∀ j u, ([x].flatMap cellRn)[j]? = some u → (w.alloc (rnO x)).cell? ((⟨w.heap.size, 0, none⟩ : Addr).add j) = some u := by
    intro j u hu
    rw [addr_addH, Nat.zero_add, cell_of_block (heap_alloc_new w (rnO x))]
    have : ([x].flatMap cellRn)[j]? = (#[u64 x.first.c, u64 x.first.k, u64 x.first.lc, u64 x.first.lk, u64 x.first.rc, u64 x.first.rk, iV (x.par.run : Int), u64 x.par.pos, iV (x.far.run : Int), u64 x.far.pos, iV x.depth] : Array Value)[j]? := by simp [cellRn]
    rw [← this]; exact hu
  obtain ⟨v', w', hrun, hown', hgr, _, hat⟩ := run_append_own_at (w.alloc (rnO x)) 0 67 67 66 i0 _ 11 88 Tryz.underlying67 hi hz0 hz1 hz2 rfl (by decide) (.slice (some ⟨g, 0, none⟩) L.length cap) L.length (L.flatMap cellRn) hown ⟨w.heap.size, 0, none⟩ 1 1 ([x].flatMap cellRn) (flat_len cellRn 11 cellRn_len [x]) hcl (cellsR_one [x]) (by unfold maxLen; omega) (by omega) (Nat.zero_le _)
  rcases hown'.2 with ⟨_, h9⟩ | ⟨g', cap', cur', rfl, _, hg', d1, d2, d3, d4⟩
  · omega
  have hat' : g' = g ∨ g' = (w.alloc (rnO x)).heap.size := by simpa [Value.ownBlock] using hat
  have hsz : (w.alloc (rnO x)).heap.size = w.heap.size + 1 := by simp
  have hbg' : b ≠ g' := by
    rcases hat' with e | e
    · rw [e]; exact h.ne
    · omega
  have hold : ∀ x, x < w.heap.size → x ≠ g → w'.heap[x]? = w.heap[x]? := fun x hx hxg => by
    rw [hgr.block x (by omega) (by simp [Value.ownBlock]; omega)]
    exact Below.heap_alloc _ _ _ hx
  have hbo : w'.heap[b]? = w.heap[b]? := hold b hb h.ne
  have hcb : w'.cell? ⟨b, k, none⟩ = w.cell? ⟨b, k, none⟩ := World.cell?_of_block hbo
  refine ⟨g', cap', w', hrun, ⟨?_, hbg', cur', ?_, d3, by simpa using d1, by unfold maxLen at d2; omega, ?_⟩, ⟨?_, ?_, ?_, ?_, ?_, ?_, ?_⟩, ?_, ⟨_, by rw [hcb]; exact h.cell⟩, hbo⟩
  · rw [List.length_append]
    exact World.cell?_setCell_same' w' ⟨b, k, none⟩ _ (by rw [hcb, h.cell]; rfl)
  · rw [Below.heap_setCell _ _ _ _ (Ne.symm hbg')]; exact hg'
  · rw [List.length_append, List.flatMap_append]; exact d4
  · exact hgr.os
  · exact hgr.tape
  · exact hgr.output
  · have := hgr.size
    simp only [World.setCell, World.alloc] at this ⊢
    simp at this ⊢
    omega
  · intro x hx hxg hxb
    rw [Below.heap_setCell _ _ _ _ hxb]
    exact hold x hx hxg
  · intro j hj
    have hne : (⟨b, k, none⟩ : Addr) ≠ ⟨b, j, none⟩ := fun e => by simp only [Addr.mk.injEq] at e; exact hj e.2.1.symm
    exact (World.cell?_setCell_other w' _ _ _ hne).trans (World.cell?_of_block hbo)
  · intro c t fr hb'
    exact ⟨_, heap_setCell_same _ _ _ _ (hbo.trans hb')⟩
  · rcases hat' with e | e
    · exact .inl e
    · exact .inr (by omega)
end Go.Proofs.YtnilikomoapcaaaGreat
