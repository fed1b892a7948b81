/- Package seq: addPiece. -/
import Derived.Test.YtnilikomoapcaaaGreatPart12
import Derived.Test.YtnilikomoapcaaaGreatPart11
namespace Go.Proofs.YtnilikomoapcaaaGreat
open Go.RowKit
set_option linter.unusedVariables false
set_option linter.unusedSimpArgs false
set_option maxRecDepth 100000

theorem AddF.touchT {w w' : World} {b k g : Nat} (h : AddF w w' b k g) : Touch (fun x => x = b ∨ x = g) w w' := ⟨h.os, h.tape, h.output, h.size, fun x hx hn => h.block x hx (fun e => hn (.inr e)) (fun e => hn (.inl e))⟩
theorem AddF.arr {α : Type} {cf : α → List Value} {m ty : Nat} {w w' : World} {b k g k' g' cap : Nat} {L : List α} (h : AddF w w' b k g) (a : ArrAt cf m ty w b k' g' cap L) (hk : k' ≠ k) (hg : g' ≠ g) : ArrAt cf m ty w' b k' g' cap L :=
  a.keep2 (h.cells k' hk) (h.block g' a.lt hg (Ne.symm a.ne))
theorem AddF.rowF {w w' : World} {b k g k' g' cap n : Nat} {F : List Nat} {len : Nat → Int} (h : AddF w w' b k g) (a : RowAt w b k' g' cap n F len) (hk : k' ≠ k) (hg : g' ≠ g) : RowAt w' b k' g' cap n F len :=
  a.keep2 (h.cells k' hk) (h.block g' a.lt hg (Ne.symm a.ne))
theorem AddF.blk0 {w w' : World} {b k g : Nat} {t : TypeId} (h : AddF w w' b k g) (hb : ∃ c, w.heap[b]? = some (.cells c t (0, 0))) : ∃ c, w'.heap[b]? = some (.cells c t (0, 0)) := by
  obtain ⟨c, hc⟩ := hb
  obtain ⟨v, hv⟩ := h.blk _ _ _ hc
  exact ⟨_, hv⟩
theorem free_blk {w : World} {b : Nat} {t : TypeId} (hb : ∃ c, w.heap[b]? = some (.cells c t (0, 0))) (k : Nat) : ∀ W : World, W.heap[b]? = w.heap[b]? → W.frozen? ⟨b, k, none⟩ = false := fun W e => by
  obtain ⟨c, hc⟩ := hb
  exact free_of_block (e.trans hc)
/-- What a call that lays something anew leaves: the sequence in its new state, and all else as it was. -/
def Laid (w w' : World) (B : Bk) (S : SS) : Prop := ∃ B', SeqM w' B' S ∧ B'.b = B.b ∧ (∀ x, B'.has x → B.has x ∨ w.heap.size ≤ x) ∧ Touch B.has w w'
/-- What three appends one behind the other leave. -/
theorem laid_of {w0 w w1 w2 w3 : World} {B : Bk} {S : SS} {st by' : Nat} {first : Sp} {n : Int} {gp' kp' go' ko' gi' ki' : Nat} (h : SeqM w0 B S) (t0 : Touch (fun _ => False) w0 w)
    (a1 : AddF w w1 B.b 1 B.gp) (p1 : PcsAt w1 B.b 1 gp' kp' (S.pcs ++ [first])) (g1 : gp' = B.gp ∨ w.heap.size ≤ gp')
    (a2 : AddF w1 w2 B.b 2 B.go) (p2 : RowAt w2 B.b 2 go' ko' (S.pcs.length + 1) (insB st S.pcs.length S.ord) (fun x => S.len x + (if x = S.pcs.length then n else 0))) (g2 : go' = B.go ∨ w1.heap.size ≤ go')
    (a3 : AddF w2 w3 B.b 3 B.gi) (p3 : RowAt w3 B.b 3 gi' ki' (S.pcs.length + 1) (insB by' S.pcs.length S.idx) (fun x => (0 : Int) + (if x = S.pcs.length then 0 else 0))) (g3 : gi' = B.gi ∨ w2.heap.size ≤ gi') :
    Laid w0 w3 B (S.addPiece st by' first n) := by
  have hw := h.keep0 t0
  have hap := h.apart
  simp only [List.nodup_cons, List.mem_cons, List.not_mem_nil, or_false, not_or, List.nodup_nil, and_true, not_false_eq_true] at hap
  obtain ⟨⟨n1, n2, n3⟩, ⟨n4, n5⟩, n6⟩ := hap
  have lr := hw.runs.lt
  have lp := hw.pcs.lt
  have lo := hw.ord.lt
  have li := hw.idx.lt
  have s1 := a1.size
  have s2 := a2.size
  have s0 := t0.size
  have lp1 := p1.lt
  have lo2 := p2.lt
  have hr3 : RunsAt w3 B.b 0 B.gr B.kr S.runs := a3.arr (a2.arr (a1.arr hw.runs (by omega) n1) (by omega) n2) (by omega) n3
  have hp3 : PcsAt w3 B.b 1 gp' kp' (S.pcs ++ [first]) := a3.arr (a2.arr p1 (by omega) (by rcases g1 with e | e <;> omega)) (by omega) (by rcases g1 with e | e <;> omega)
  have ho3 := a3.rowF p2 (by omega) (by rcases g2 with e | e <;> omega)
  have hlen : (S.pcs ++ [first]).length = S.pcs.length + 1 := by simp
  have hz : (fun x => (0 : Int) + (if x = S.pcs.length then 0 else 0)) = (fun _ => (0 : Int)) := by funext x; split <;> rfl
  refine ⟨⟨B.b, B.gr, B.kr, gp', kp', go', ko', gi', ki'⟩, ⟨a3.blk0 (a2.blk0 (a1.blk0 hw.blk)), hr3, hp3, ?_, ?_, ?_⟩, rfl, ?_, ?_⟩
  · show RowAt w3 B.b 2 go' ko' (S.pcs ++ [first]).length _ _
    rw [hlen]; exact ho3
  · show RowAt w3 B.b 3 gi' ki' (S.pcs ++ [first]).length _ _
    rw [hlen, ← hz]; exact p3
  · show [B.gr, gp', go', gi'].Nodup
    simp only [List.nodup_cons, List.mem_cons, List.not_mem_nil, or_false, not_or, List.nodup_nil, and_true, not_false_eq_true]
    refine ⟨⟨?_, ?_, ?_⟩, ⟨?_, ?_⟩, ?_⟩ <;> (rcases g1 with e1 | e1 <;> rcases g2 with e2 | e2 <;> rcases g3 with e3 | e3 <;> omega)
  · rintro x (e | e | e | e | e)
    · exact .inl (.inl e)
    · exact .inl (.inr (.inl e))
    · have e' : x = gp' := e
      rcases g1 with e1 | e1
      · exact .inl (.inr (.inr (.inl (e'.trans e1))))
      · exact .inr (by omega)
    · have e' : x = go' := e
      rcases g2 with e1 | e1
      · exact .inl (.inr (.inr (.inr (.inl (e'.trans e1)))))
      · exact .inr (by omega)
    · have e' : x = gi' := e
      rcases g3 with e1 | e1
      · exact .inl (.inr (.inr (.inr (.inr (e'.trans e1)))))
      · exact .inr (by omega)
  · refine ((Touch.mono t0 fun _ _ e => False.elim e).trans (a1.touchT.mono ?_)).trans ((a2.touchT.mono ?_).trans (a3.touchT.mono ?_))
    · rintro x _ (e | e)
      · exact .inl e
      · exact .inr (.inr (.inl e))
    · rintro x _ (e | e)
      · exact .inl e
      · exact .inr (.inr (.inr (.inl e)))
    · rintro x _ (e | e)
      · exact .inl e
      · exact .inr (.inr (.inr (.inr e)))
set_option maxHeartbeats 16000000 in
theorem addPiece_any {w : World} {B : Bk} {S : SS} (h : SeqM w B S) (st by' : Nat) (first : Sp) (n : Int) (hst : st < S.pcs.length) (hby : by' < S.pcs.length) (hn : 0 ≤ n) (hs : S.total + n ≤ 1152921504606846976) (hl : S.pcs.length ≤ 1073741824) :
    Calls Tryz.prog 54 #[sP B, iV (st : Int), iV (by' : Int), .agg #[iV ((first).run : Int), u64 (first).pos], iV n] w fun e w' => e = .returned (.tuple #[]) ∧ Laid w w' B (S.addPiece st by' first n) := by
  obtain ⟨E, hE⟩ : ∃ E, Hid (E = w.alloc (.cells #[iV (first.run : Int), u64 first.pos] 64)) := ⟨_, Eq.refl _⟩
  have HTE : Hid (Touch (fun _ => False) w E.drew) := by rw [hE.out]; exact ((Touch.refl _ _).alloc _).drew
  have HEB : Hid (E.heap[w.heap.size]? = some (spO first)) := by rw [hE.out]; exact heap_alloc_new _ _
  have hE' := h.keep0 HTE.out
  obtain ⟨g', cap', w1, hrun, hT1, hA1, hgg, ⟨v, hcv⟩, hb1⟩ := append_sp first hE'.pcs hl
  have hbz : ∀ (W : World), (Instr.buildSlice 68 1 #[(0, .agg #[iV ((first).run : Int), u64 (first).pos])]).run Tryz.prog W = .ok (.slice (some ⟨W.heap.size, 0, none⟩) 1 1) (W.alloc (.cells #[iV (first.run : Int), u64 first.pos] 64)) := fun W => by kernel_rfl
  have hrun' : (Builtin.append_ #[68, 68] 68 #[.slice (some ⟨B.gp, 0, none⟩) S.pcs.length B.kp, .slice (some ⟨E.heap.size, 0, none⟩) 1 1]).run Tryz.prog (E.alloc (.cells #[iV (first.run : Int), u64 first.pos] 64)).drew = .ok (.slice (some ⟨g', 0, none⟩) (S.pcs.length + 1) cap') w1 := hrun
  have z1 := free_blk hE'.blk 1 w1 hb1
  have hc : E.cell? ⟨B.b, 1, none⟩ = some (.slice (some ⟨B.gp, 0, none⟩) S.pcs.length B.kp) := hE'.pcs.cell
  have hc2 : (E.alloc (.cells #[iV (first.run : Int), u64 first.pos] 64)).cell? ⟨B.b, 1, none⟩ = some (.slice (some ⟨B.gp, 0, none⟩) S.pcs.length B.kp) := cell_keep ((Touch.refl _ _).alloc _) hc
  obtain ⟨x0, x1, -, -⟩ := spO_cells HEB.out
  obtain ⟨W1, hW1⟩ : ∃ W, Hid (W = w1.setCell ⟨B.b, 1, none⟩ (.slice (some ⟨g', 0, none⟩) (S.pcs.length + 1) cap')) := ⟨_, Eq.refl _⟩
  have H1 : Hid (PcsAt W1 B.b 1 g' cap' (S.pcs ++ [first]) ∧ AddF E.drew W1 B.b 1 B.gp ∧ (g' = B.gp ∨ E.drew.heap.size ≤ g')) := by rw [hW1.out]; exact ⟨hT1, hA1, hgg⟩
  have HB1 : Hid (w1.heap[w.heap.size]? = some (spO first) ∧ W1.heap[w.heap.size]? = some (spO first)) := by
    have hlb : B.b < w.heap.size := h.lt (.inl rfl)
    have hlp : B.gp < w.heap.size := h.lt (.inr (.inr (.inl rfl)))
    have e1 : W1.heap[w.heap.size]? = some (spO first) := (H1.out.2.1.block _ (lt_of_heap HEB.out) (by omega) (by omega)).trans HEB.out
    refine ⟨?_, e1⟩
    rw [hW1.out, heap_setCell_other _ _ _ _ (by show B.b ≠ _; omega)] at e1
    exact e1
  obtain ⟨y0, y1, -, -⟩ := spO_cells HB1.out.1
  obtain ⟨u0, u1, -, -⟩ := spO_cells HB1.out.2
  have hap := h.apart
  simp only [List.nodup_cons, List.mem_cons, List.not_mem_nil, or_false, not_or, List.nodup_nil, and_true, not_false_eq_true] at hap
  obtain ⟨⟨n1, n2, n3⟩, ⟨n4, n5⟩, n6⟩ := hap
  have HO : Hid (Calls Tryz.prog 78 #[rP B.b 2, iV (st : Int), iV n] W1 fun e w' => e = .returned (.tuple #[]) ∧ (∃ g' cap', (g' = B.go ∨ W1.heap.size ≤ g') ∧ RowAt w' B.b 2 g' cap' (S.pcs.length + 1) (insB st S.pcs.length S.ord) (fun x => S.len x + (if x = S.pcs.length then n else 0))) ∧ AddF W1 w' B.b 2 B.go) :=
    r_add (H1.out.2.1.rowF hE'.ord (by omega) (Ne.symm n4)) (free_blk (H1.out.2.1.blk0 hE'.blk) 2) st hst n hn hs hl
  have HX : Hid (∀ W2, AddF W1 W2 B.b 2 B.go → Calls Tryz.prog 78 #[rP B.b 3, iV (by' : Int), iV 0] W2 fun e w' => e = .returned (.tuple #[]) ∧ (∃ g' cap', (g' = B.gi ∨ W2.heap.size ≤ g') ∧ RowAt w' B.b 3 g' cap' (S.pcs.length + 1) (insB by' S.pcs.length S.idx) (fun x => (0 : Int) + (if x = S.pcs.length then 0 else 0))) ∧ AddF W2 w' B.b 3 B.gi) := fun W2 a2 =>
    r_add (a2.rowF (H1.out.2.1.rowF hE'.idx (by omega) (Ne.symm n5)) (by omega) (Ne.symm n6)) (free_blk (a2.blk0 (H1.out.2.1.blk0 hE'.blk)) 3) by' hby 0 (by omega) (by
      have : sumF (fun _ => (0 : Int)) S.idx = 0 := by
        have : ∀ l : List Nat, sumF (fun _ => (0 : Int)) l = 0 := fun l => by
          induction l with
          | nil => rfl
          | cons a l ih => rw [sumF_cons, ih]; rfl
        exact this _
      omega) hl
  have HL : Hid (SeqM w B S) := h
  obtain ⟨xr, xp⟩ := first
  simp only at hE hbz hrun' hc2 x0 x1 y0 y1 u0 u1 ⊢
  have S0 : E.drew.cell? ⟨w.heap.size, 0, none⟩ = some (iV (xr : Int)) ∧ E.drew.cell? ⟨w.heap.size, 1, none⟩ = some (u64 xp) := ⟨x0, x1⟩
  have S1 : (E.alloc (.cells #[iV (xr : Int), u64 xp] 64)).drew.cell? ⟨w.heap.size, 0, none⟩ = some (iV (xr : Int)) ∧ (E.alloc (.cells #[iV (xr : Int), u64 xp] 64)).drew.cell? ⟨w.heap.size, 1, none⟩ = some (u64 xp) := ⟨cell_keep ((Touch.refl _ _).alloc _).drew x0, cell_keep ((Touch.refl _ _).alloc _).drew x1⟩
  have S2 : w1.cell? ⟨w.heap.size, 0, none⟩ = some (iV (xr : Int)) ∧ w1.cell? ⟨w.heap.size, 1, none⟩ = some (u64 xp) := ⟨y0, y1⟩
  have S3 : (w1.setCell ⟨B.b, 1, none⟩ (.slice (some ⟨g', 0, none⟩) (S.pcs.length + 1) cap')).cell? ⟨w.heap.size, 0, none⟩ = some (iV (xr : Int)) ∧ (w1.setCell ⟨B.b, 1, none⟩ (.slice (some ⟨g', 0, none⟩) (S.pcs.length + 1) cap')).cell? ⟨w.heap.size, 1, none⟩ = some (u64 xp) := by rw [← hW1.out]; exact ⟨u0, u1⟩
  clear x0 x1 y0 y1 u0 u1 HB1
  obtain ⟨np, hnp⟩ : ∃ m, m = S.pcs.length := ⟨_, rfl⟩
  rw [← hnp] at hrun' hc hc2 S3 hW1 HO HX
  have HNP : Hid (S.pcs.length = np) := hnp.symm
  clear hnp
  clear h hE' hrun hT1 hA1 hgg hb1 hst hby hn hs hl n1 n2 n3 n4 n5 n6 HEB
  go_enter Tryz.func54, Tryz.ntmps54
  go_upto_region 1 with fail
  rw [← hE.out]
  clear hE
  generalize w.heap.size = B0 at *
  refine wp_region_held_drew (S := fun W : World => W.cell? ⟨B0, 0, none⟩ = some (iV (xr : Int)) ∧ W.cell? ⟨B0, 1, none⟩ = some (u64 xp)) (by kernel_rfl) S0 (fun hHeld => ?_)
  refine wpAnyH_take (i := 0) (oi := { dst := some 10, op := Go.Op.move (Go.Operand.tmp 0), type := 24, pos := "place.go:88", after := #[], guard := none }) (v := sP B) rfl (by kernel_rfl) (by kernel_rfl) (by kernel_rfl) (fun _ _ _ h => h) (Or.inl ⟨by rfl, ?_⟩) hHeld ?_
  · intro w hSw; clear hSw; go_simp
  simp only [Act.put, List.setIfInBounds_toArray, List.set_cons_succ, List.set_cons_zero]
  refine wpAnyH_take (i := 1) (oi := { dst := some 11, op := Go.Op.move (Go.Operand.tmp 0), type := 24, pos := "place.go:88", after := #[], guard := none }) (v := sP B) rfl (by kernel_rfl) (by kernel_rfl) (by kernel_rfl) (fun _ _ _ h => h) (Or.inl ⟨by rfl, ?_⟩) hHeld ?_
  · intro w hSw; clear hSw; go_simp
  simp only [Act.put, List.setIfInBounds_toArray, List.set_cons_succ, List.set_cons_zero]
  refine wpAnyH_take (i := 2) (oi := { dst := some 12, op := Go.Op.nilCheck (Go.Operand.tmp 11), type := 0, pos := "place.go:88", after := #[{ on := 1, ground := Go.Ground.data }], guard := none }) (v := .pointer (some ⟨B.b, 0, none⟩)) rfl (by kernel_rfl) (by kernel_rfl) (by kernel_rfl) (fun _ _ _ h => h) (Or.inl ⟨by rfl, ?_⟩) hHeld ?_
  · intro w hSw; clear hSw; go_simp
  simp only [Act.put, List.setIfInBounds_toArray, List.set_cons_succ, List.set_cons_zero]
  refine wpAnyH_take (i := 3) (oi := { dst := some 13, op := Go.Op.fieldAddr 74 (Go.Operand.tmp 12) 1, type := 0, pos := "place.go:88", after := #[{ on := 2, ground := Go.Ground.data }], guard := none }) (v := .pointer (some ⟨B.b, 1, none⟩)) rfl (by kernel_rfl) (by kernel_rfl) (by kernel_rfl) (fun _ _ _ h => h) (Or.inl ⟨by rfl, ?_⟩) hHeld ?_
  · intro w hSw; clear hSw; go_simp
  simp only [Act.put, List.setIfInBounds_toArray, List.set_cons_succ, List.set_cons_zero]
  refine wpAnyH_take (i := 5) (oi := { dst := some 15, op := Go.Op.load 64 (Go.Operand.tmp 8), type := 64, pos := "place.go:88", after := #[], guard := none }) (v := .agg #[iV (xr : Int), u64 xp]) rfl (by kernel_rfl) (by kernel_rfl) (by kernel_rfl) (fun _ _ _ h => h) (Or.inl ⟨by rfl, ?_⟩) hHeld ?_
  · intro w hSw; obtain ⟨s1, s2⟩ := hSw; go_simp
  simp only [Act.put, List.setIfInBounds_toArray, List.set_cons_succ, List.set_cons_zero]
  refine wpAnyH_ready (rs := [4, 6]) (by kernel_rfl) (by simp) ?_
  refine (AllReadyH.cons (o := { dst := some 14, op := Go.Op.load 68 (Go.Operand.tmp 13), type := 68, pos := "place.go:88", after := #[{ on := 3, ground := Go.Ground.data }], guard := none }) rfl (fun K hK => ?_) (AllReadyH.cons (o := { dst := some 16, op := Go.Op.buildSlice 68 1 #[(0, Go.Operand.tmp 15)], type := 68, pos := "place.go:88", after := #[{ on := 5, ground := Go.Ground.data }], guard := none }) rfl (fun K hK => ?_) AllReadyH.nil))
  · go_simp
    refine hK.out _ _ S0 (fun hHeld => ?_)
    clear hK K
    try simp only [Act.put, List.setIfInBounds_toArray, List.set_cons_succ, List.set_cons_zero]
    refine wpAnyH_ready (rs := [6]) (by kernel_rfl) (by simp) ?_
    refine (AllReadyH.cons (o := { dst := some 16, op := Go.Op.buildSlice 68 1 #[(0, Go.Operand.tmp 15)], type := 68, pos := "place.go:88", after := #[{ on := 5, ground := Go.Ground.data }], guard := none }) rfl (fun K hK => ?_) AllReadyH.nil)
    go_simp
    refine hK.out _ _ S1 (fun hHeld => ?_)
    clear hK K
    try simp only [Act.put, List.setIfInBounds_toArray, List.set_cons_succ, List.set_cons_zero]
    refine wpAnyH_ready (rs := [7]) (by kernel_rfl) (by simp) ?_
    refine (AllReadyH.cons (o := { dst := some 17, op := Go.Op.call { callee := Go.Callee.builtin Go.Builtin.append, args := #[Go.Operand.tmp 14, Go.Operand.tmp 16], argTypes := #[68, 68] }, type := 68, pos := "place.go:88", after := #[{ on := 4, ground := Go.Ground.data }, { on := 6, ground := Go.Ground.data }], guard := none }) rfl (fun K hK => ?_) AllReadyH.nil)
    refine step_append 68 (by rfl) _ _ rfl _ _ _ rfl rfl hrun' ?_
    refine hK.out _ _ S2 (fun hHeld => ?_)
    clear hK K
    try simp only [Act.put, List.setIfInBounds_toArray, List.set_cons_succ, List.set_cons_zero]
    refine wpAnyH_take (i := 8) (oi := { dst := some 18, op := Go.Op.nilCheck (Go.Operand.tmp 10), type := 0, pos := "place.go:88", after := #[{ on := 0, ground := Go.Ground.data }, { on := 0, ground := Go.Ground.phase }, { on := 1, ground := Go.Ground.phase }, { on := 2, ground := Go.Ground.phase }, { on := 3, ground := Go.Ground.phase }, { on := 4, ground := Go.Ground.phase }, { on := 5, ground := Go.Ground.phase }, { on := 6, ground := Go.Ground.phase }, { on := 7, ground := Go.Ground.phase }], guard := none }) (v := .pointer (some ⟨B.b, 0, none⟩)) rfl (by kernel_rfl) (by kernel_rfl) (by kernel_rfl) (fun _ _ _ h => h) (Or.inl ⟨by rfl, ?_⟩) hHeld ?_
    · intro w hSw; clear hSw; go_simp
    simp only [Act.put, List.setIfInBounds_toArray, List.set_cons_succ, List.set_cons_zero]
    refine wpAnyH_take (i := 9) (oi := { dst := some 19, op := Go.Op.fieldAddr 74 (Go.Operand.tmp 18) 1, type := 0, pos := "place.go:88", after := #[{ on := 8, ground := Go.Ground.data }, { on := 0, ground := Go.Ground.phase }, { on := 1, ground := Go.Ground.phase }, { on := 2, ground := Go.Ground.phase }, { on := 3, ground := Go.Ground.phase }, { on := 4, ground := Go.Ground.phase }, { on := 5, ground := Go.Ground.phase }, { on := 6, ground := Go.Ground.phase }, { on := 7, ground := Go.Ground.phase }], guard := none }) (v := .pointer (some ⟨B.b, 1, none⟩)) rfl (by kernel_rfl) (by kernel_rfl) (by kernel_rfl) (fun _ _ _ h => h) (Or.inl ⟨by rfl, ?_⟩) hHeld ?_
    · intro w hSw; clear hSw; go_simp
    simp only [Act.put, List.setIfInBounds_toArray, List.set_cons_succ, List.set_cons_zero]
    refine wpAnyH_ready (rs := [10]) (by kernel_rfl) (by simp) ?_
    refine (AllReadyH.cons (o := { dst := none, op := Go.Op.store 68 (Go.Operand.tmp 19) (Go.Operand.tmp 17), type := 0, pos := "place.go:88", after := #[{ on := 9, ground := Go.Ground.data }, { on := 7, ground := Go.Ground.data }, { on := 7, ground := Go.Ground.chain }, { on := 0, ground := Go.Ground.phase }, { on := 1, ground := Go.Ground.phase }, { on := 2, ground := Go.Ground.phase }, { on := 3, ground := Go.Ground.phase }, { on := 4, ground := Go.Ground.phase }, { on := 5, ground := Go.Ground.phase }, { on := 6, ground := Go.Ground.phase }, { on := 7, ground := Go.Ground.phase }], guard := none }) rfl (fun K hK => ?_) AllReadyH.nil)
    go_simp
    refine hK.out _ _ S3 (fun hHeld => ?_)
    clear hK K
    try simp only [Act.put, List.setIfInBounds_toArray, List.set_cons_succ, List.set_cons_zero]
    refine wpAnyH_done (by kernel_rfl) ?_ _
    try simp only [List.getElem_toArray, List.getElem_cons_succ, List.getElem_cons_zero, List.setIfInBounds_toArray, List.set_cons_succ, List.set_cons_zero]
    go_upto_region 2 with fail
    rw [← hW1.out]
    clear S0 S1 S2 S3 hc hc2 hbz hrun' z1 hcv
    go_wp2_with fail
    refine HO.out.mono ?_
    rintro e W2 ⟨rfl, ⟨go', ko', q1, q2⟩, q3⟩
    have H2 : Hid ((go' = B.go ∨ W1.heap.size ≤ go') ∧ RowAt W2 B.b 2 go' ko' (np + 1) (insB st np S.ord) (fun x => S.len x + (if x = np then n else 0)) ∧ AddF W1 W2 B.b 2 B.go) := ⟨q1, q2, q3⟩
    clear q1 q2 q3 HO
    go_wp2_with fail
    refine (HX.out _ H2.out.2.2).mono ?_
    rintro e W3 ⟨rfl, ⟨gi', ki', q1, q2⟩, q3⟩
    have H3 : Hid ((gi' = B.gi ∨ W2.heap.size ≤ gi') ∧ RowAt W3 B.b 3 gi' ki' (np + 1) (insB by' np S.idx) (fun x => (0 : Int) + (if x = np then 0 else 0)) ∧ AddF W2 W3 B.b 3 B.gi) := ⟨q1, q2, q3⟩
    clear q1 q2 q3 HX
    have hnp := HNP.out
    subst hnp
    go_wp2_with fail
    go_end0
    exact ⟨rfl, laid_of HL.out HTE.out H1.out.2.1 H1.out.1 H1.out.2.2 H2.out.2.2 H2.out.2.1 H2.out.1 H3.out.2.2 H3.out.2.1 H3.out.1⟩
  · go_simp
    refine hK.out _ _ S1 (fun hHeld => ?_)
    clear hK K
    try simp only [Act.put, List.setIfInBounds_toArray, List.set_cons_succ, List.set_cons_zero]
    refine wpAnyH_ready (rs := [4]) (by kernel_rfl) (by simp) ?_
    refine (AllReadyH.cons (o := { dst := some 14, op := Go.Op.load 68 (Go.Operand.tmp 13), type := 68, pos := "place.go:88", after := #[{ on := 3, ground := Go.Ground.data }], guard := none }) rfl (fun K hK => ?_) AllReadyH.nil)
    go_simp
    refine hK.out _ _ S1 (fun hHeld => ?_)
    clear hK K
    try simp only [Act.put, List.setIfInBounds_toArray, List.set_cons_succ, List.set_cons_zero]
    refine wpAnyH_ready (rs := [7]) (by kernel_rfl) (by simp) ?_
    refine (AllReadyH.cons (o := { dst := some 17, op := Go.Op.call { callee := Go.Callee.builtin Go.Builtin.append, args := #[Go.Operand.tmp 14, Go.Operand.tmp 16], argTypes := #[68, 68] }, type := 68, pos := "place.go:88", after := #[{ on := 4, ground := Go.Ground.data }, { on := 6, ground := Go.Ground.data }], guard := none }) rfl (fun K hK => ?_) AllReadyH.nil)
    refine step_append 68 (by rfl) _ _ rfl _ _ _ rfl rfl hrun' ?_
    refine hK.out _ _ S2 (fun hHeld => ?_)
    clear hK K
    try simp only [Act.put, List.setIfInBounds_toArray, List.set_cons_succ, List.set_cons_zero]
    refine wpAnyH_take (i := 8) (oi := { dst := some 18, op := Go.Op.nilCheck (Go.Operand.tmp 10), type := 0, pos := "place.go:88", after := #[{ on := 0, ground := Go.Ground.data }, { on := 0, ground := Go.Ground.phase }, { on := 1, ground := Go.Ground.phase }, { on := 2, ground := Go.Ground.phase }, { on := 3, ground := Go.Ground.phase }, { on := 4, ground := Go.Ground.phase }, { on := 5, ground := Go.Ground.phase }, { on := 6, ground := Go.Ground.phase }, { on := 7, ground := Go.Ground.phase }], guard := none }) (v := .pointer (some ⟨B.b, 0, none⟩)) rfl (by kernel_rfl) (by kernel_rfl) (by kernel_rfl) (fun _ _ _ h => h) (Or.inl ⟨by rfl, ?_⟩) hHeld ?_
    · intro w hSw; clear hSw; go_simp
    simp only [Act.put, List.setIfInBounds_toArray, List.set_cons_succ, List.set_cons_zero]
    refine wpAnyH_take (i := 9) (oi := { dst := some 19, op := Go.Op.fieldAddr 74 (Go.Operand.tmp 18) 1, type := 0, pos := "place.go:88", after := #[{ on := 8, ground := Go.Ground.data }, { on := 0, ground := Go.Ground.phase }, { on := 1, ground := Go.Ground.phase }, { on := 2, ground := Go.Ground.phase }, { on := 3, ground := Go.Ground.phase }, { on := 4, ground := Go.Ground.phase }, { on := 5, ground := Go.Ground.phase }, { on := 6, ground := Go.Ground.phase }, { on := 7, ground := Go.Ground.phase }], guard := none }) (v := .pointer (some ⟨B.b, 1, none⟩)) rfl (by kernel_rfl) (by kernel_rfl) (by kernel_rfl) (fun _ _ _ h => h) (Or.inl ⟨by rfl, ?_⟩) hHeld ?_
    · intro w hSw; clear hSw; go_simp
    simp only [Act.put, List.setIfInBounds_toArray, List.set_cons_succ, List.set_cons_zero]
    refine wpAnyH_ready (rs := [10]) (by kernel_rfl) (by simp) ?_
    refine (AllReadyH.cons (o := { dst := none, op := Go.Op.store 68 (Go.Operand.tmp 19) (Go.Operand.tmp 17), type := 0, pos := "place.go:88", after := #[{ on := 9, ground := Go.Ground.data }, { on := 7, ground := Go.Ground.data }, { on := 7, ground := Go.Ground.chain }, { on := 0, ground := Go.Ground.phase }, { on := 1, ground := Go.Ground.phase }, { on := 2, ground := Go.Ground.phase }, { on := 3, ground := Go.Ground.phase }, { on := 4, ground := Go.Ground.phase }, { on := 5, ground := Go.Ground.phase }, { on := 6, ground := Go.Ground.phase }, { on := 7, ground := Go.Ground.phase }], guard := none }) rfl (fun K hK => ?_) AllReadyH.nil)
    go_simp
    refine hK.out _ _ S3 (fun hHeld => ?_)
    clear hK K
    try simp only [Act.put, List.setIfInBounds_toArray, List.set_cons_succ, List.set_cons_zero]
    refine wpAnyH_done (by kernel_rfl) ?_ _
    try simp only [List.getElem_toArray, List.getElem_cons_succ, List.getElem_cons_zero, List.setIfInBounds_toArray, List.set_cons_succ, List.set_cons_zero]
    go_upto_region 2 with fail
    rw [← hW1.out]
    clear S0 S1 S2 S3 hc hc2 hbz hrun' z1 hcv
    go_wp2_with fail
    refine HO.out.mono ?_
    rintro e W2 ⟨rfl, ⟨go', ko', q1, q2⟩, q3⟩
    have H2 : Hid ((go' = B.go ∨ W1.heap.size ≤ go') ∧ RowAt W2 B.b 2 go' ko' (np + 1) (insB st np S.ord) (fun x => S.len x + (if x = np then n else 0)) ∧ AddF W1 W2 B.b 2 B.go) := ⟨q1, q2, q3⟩
    clear q1 q2 q3 HO
    go_wp2_with fail
    refine (HX.out _ H2.out.2.2).mono ?_
    rintro e W3 ⟨rfl, ⟨gi', ki', q1, q2⟩, q3⟩
    have H3 : Hid ((gi' = B.gi ∨ W2.heap.size ≤ gi') ∧ RowAt W3 B.b 3 gi' ki' (np + 1) (insB by' np S.idx) (fun x => (0 : Int) + (if x = np then 0 else 0)) ∧ AddF W2 W3 B.b 3 B.gi) := ⟨q1, q2, q3⟩
    clear q1 q2 q3 HX
    have hnp := HNP.out
    subst hnp
    go_wp2_with fail
    go_end0
    exact ⟨rfl, laid_of HL.out HTE.out H1.out.2.1 H1.out.1 H1.out.2.2 H2.out.2.2 H2.out.2.1 H2.out.1 H3.out.2.2 H3.out.2.1 H3.out.1⟩
end Go.Proofs.YtnilikomoapcaaaGreat
