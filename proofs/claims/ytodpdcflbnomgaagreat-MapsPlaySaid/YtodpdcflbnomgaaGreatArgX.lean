/- Arguments that are scripts of quirelaw12. -/
import Derived.Test.YtodpdcflbnomgaaGreatPart26
import Derived.Test.YtodpdcflbnomgaaGreatPart28
import Derived.Deep.Slices
import Derived.ChangeMaps5
import Derived.SizedLaws
import Derived.Lib.SmallJoins
namespace Go.Proofs.YtodpdcflbnomgaaGreat
open Go.ChangeShapes Go.WideShapes Go.ChangeAt Go.RowKit Go.Joins
set_option linter.unusedVariables false
set_option linter.unusedSimpArgs false
set_option maxRecDepth 100000

theorem opCells_of {H : Type} {enc : TypeId × Value → H} {w : World} {base : Nat} {spare : Nat → Bool} {held : Bool} {fuel : Nat} {y : DataW H × List MemPlace} {c0 c1 c2 c3 c4 c5 c6 c7 c8 c9 c10 c11 c12 c13 c14 c15 c16 c17 c18 c19 c20 c21 : Value}
    (hf : DataW.trod enc Tryz.prog w base spare held fuel 41 [c0, c1, c2, c3, c4, c5, c6, c7, c8, c9, c10, c11, c12, c13, c14, c15, c16, c17, c18, c19, c20, c21] = some y) : ∃ x : O, [c0, c1, c2, c3, c4, c5, c6, c7, c8, c9, c10, c11, c12, c13, c14, c15, c16, c17, c18, c19, c20, c21] = x.vals.toList ∧ x.fits ∧ x.vs.size ≤ 9223372036854775807 ∧ x.ky.size ≤ 9223372036854775807 := by
  obtain ⟨xs, n, _, _, _, hlen, hx⟩ := DataW.trod_struct Tryz.underlying41 hf
  have hl : xs.length = 11 := hlen
  clear hlen hf
  have g0 : ∃ y, DataW.trod enc Tryz.prog w base spare held n 34 [c0, c1] = some y := ⟨xs[0], by
    have := hx 0 _ rfl
    rw [List.getElem?_eq_getElem (by omega)] at this
    simpa [cellsId, Value.cells] using this⟩
  have g1 : ∃ y, DataW.trod enc Tryz.prog w base spare held n 3 [c2] = some y := ⟨xs[1], by
    have := hx 1 _ rfl
    rw [List.getElem?_eq_getElem (by omega)] at this
    simpa [cellsI, Value.cells] using this⟩
  have g2 : ∃ y, DataW.trod enc Tryz.prog w base spare held n 32 [c3] = some y := ⟨xs[2], by
    have := hx 2 _ rfl
    rw [List.getElem?_eq_getElem (by omega)] at this
    simpa [cellsU, Value.cells] using this⟩
  have g3 : ∃ y, DataW.trod enc Tryz.prog w base spare held n 34 [c4, c5] = some y := ⟨xs[3], by
    have := hx 3 _ rfl
    rw [List.getElem?_eq_getElem (by omega)] at this
    simpa [cellsId, Value.cells] using this⟩
  have g4 : ∃ y, DataW.trod enc Tryz.prog w base spare held n 34 [c6, c7] = some y := ⟨xs[4], by
    have := hx 4 _ rfl
    rw [List.getElem?_eq_getElem (by omega)] at this
    simpa [cellsId, Value.cells] using this⟩
  have g5 : ∃ y, DataW.trod enc Tryz.prog w base spare held n 9 [c8] = some y := ⟨xs[5], by
    have := hx 5 _ rfl
    rw [List.getElem?_eq_getElem (by omega)] at this
    simpa [cellsS, Value.cells] using this⟩
  have g6 : ∃ y, DataW.trod enc Tryz.prog w base spare held n 37 [c9, c10, c11, c12] = some y := ⟨xs[6], by
    have := hx 6 _ rfl
    rw [List.getElem?_eq_getElem (by omega)] at this
    simpa [cellsVal, Value.cells] using this⟩
  have g7 : ∃ y, DataW.trod enc Tryz.prog w base spare held n 9 [c13] = some y := ⟨xs[7], by
    have := hx 7 _ rfl
    rw [List.getElem?_eq_getElem (by omega)] at this
    simpa [cellsS, Value.cells] using this⟩
  have g8 : ∃ y, DataW.trod enc Tryz.prog w base spare held n 34 [c14, c15] = some y := ⟨xs[8], by
    have := hx 8 _ rfl
    rw [List.getElem?_eq_getElem (by omega)] at this
    simpa [cellsId, Value.cells] using this⟩
  have g9 : ∃ y, DataW.trod enc Tryz.prog w base spare held n 39 [c16, c17, c18] = some y := ⟨xs[9], by
    have := hx 9 _ rfl
    rw [List.getElem?_eq_getElem (by omega)] at this
    simpa [cellsAn, Value.cells] using this⟩
  have g10 : ∃ y, DataW.trod enc Tryz.prog w base spare held n 39 [c19, c20, c21] = some y := ⟨xs[10], by
    have := hx 10 _ rfl
    rw [List.getElem?_eq_getElem (by omega)] at this
    simpa [cellsAn, Value.cells] using this⟩
  obtain ⟨y0, g0⟩ := g0
  obtain ⟨c, k, rfl, rfl, w0a, w0b⟩ := id_of g0
  obtain ⟨y1, g1⟩ := g1
  obtain ⟨kind, rfl, w1⟩ := i64_of g1
  obtain ⟨y2, g2⟩ := g2
  obtain ⟨st, rfl, w2⟩ := u64_of g2
  obtain ⟨y3, g3⟩ := g3
  obtain ⟨lc, lk, rfl, rfl, w3a, w3b⟩ := id_of g3
  obtain ⟨y4, g4⟩ := g4
  obtain ⟨rc, rk, rfl, rfl, w4a, w4b⟩ := id_of g4
  obtain ⟨y5, g5⟩ := g5
  obtain ⟨tx, rfl, w5⟩ := str_of g5
  obtain ⟨y6, g6⟩ := g6
  obtain ⟨vk, vn, vf, vs, rfl, rfl, rfl, rfl, wk, wn, wf, ws⟩ := val_of g6
  obtain ⟨y7, g7⟩ := g7
  obtain ⟨ky, rfl, w7⟩ := str_of g7
  obtain ⟨y8, g8⟩ := g8
  obtain ⟨pc, pk, rfl, rfl, w8a, w8b⟩ := id_of g8
  obtain ⟨y9, g9⟩ := g9
  obtain ⟨fc, fk, fa, rfl, rfl, rfl, w9a, w9b⟩ := an_of g9
  obtain ⟨y10, g10⟩ := g10
  obtain ⟨tc, tk, ta, rfl, rfl, rfl, w10a, w10b⟩ := an_of g10
  exact ⟨⟨c, k, kind, st, lc, lk, rc, rk, tx, vk, vn, vf, vs, ky, pc, pk, fc, fk, fa, tc, tk, ta⟩, rfl, ⟨w0a, w0b, w1, w2, w3a, w3b, w4a, w4b, w8a, w8b, w9a, w9b, w10a, w10b, wk, wn, wf⟩, ws, w7⟩
theorem weightsAll_memX {H : Type} {P : Program} {e : TypeId} {d : DataW H} {y : Nat} (hy : y ∈ d.weights P e) : ∀ {l : List (DataW H)}, d ∈ l → y ∈ DataW.weightsAll P e l
  | [], h => by cases h
  | a :: r, h => by
    unfold DataW.weightsAll
    rcases List.mem_cons.1 h with rfl | h
    · exact List.mem_append.2 (.inl hy)
    · exact List.mem_append.2 (.inr (weightsAll_memX hy h))
theorem addr_addX (g o j : Nat) : (⟨g, o, none⟩ : Addr).add j = ⟨g, o + j, none⟩ := by
  unfold Addr.add
  split <;> simp_all
/-- A list of strings. -/
theorem strsIn_of {H : Type} {enc : TypeId × Value → H} {w : World} {held : Bool} {fuel : Nat} {v : Value} {x : DataW H × List MemPlace}
    (h : DataW.trod enc Tryz.prog w 0 (fun _ => true) held fuel 42 [v] = some x) (hw : ∀ y ∈ x.1.weights Tryz.prog 42, y ≤ reachBytes) :
    ∃ ks : List Key, StrsAt w v ks ∧ (∀ k ∈ ks, k.length ≤ 281474976710656) ∧ ks.length ≤ 9223372036854775807 := by
  have hr := reachBytes_lt
  rcases Deep.open_slice1 Tryz.underlying42 cellsS h with ⟨hcs, hx⟩ | ⟨a, len, c, m, nn, V, D, Pl, hcs, _, hl, hm, hmm, hx, hel⟩
  · simp at hcs
    exact ⟨[], ⟨none, 0, hcs, fun i hi => by simp at hi⟩, (by intro k hk; cases hk), by simp⟩
  · simp at hcs
    subst hcs
    simp only [if_true] at hmm
    have hD : x.1 = .slice ((List.range len).map D) ((List.range (m - len)).map fun j => D (len + j)) := by rw [hx]
    have each : ∀ i, i < len → ∃ s : ByteArray, w.cell? (a.add i) = some (.string s) ∧ s.data.toList.length ≤ 281474976710656 := fun i hi => by
      obtain ⟨h1, h2⟩ := hel i (by omega)
      obtain ⟨s, e, f, -⟩ := DataW.trod_string Tryz.underlying9 h2
      simp at e
      rw [e] at h1
      refine ⟨s, h1, ?_⟩
      have := hw s.data.toList.length (by
        rw [hD]; unfold DataW.weights; rw [Tryz.underlying42]
        exact List.mem_cons_of_mem _ (List.mem_append.2 (.inl (weightsAll_memX (d := D i) (by
          have e2 : D i = .lit (.string s.data.toList) := congrArg Prod.fst f
          rw [e2]; simp [DataW.weights]) (List.mem_map.2 ⟨i, List.mem_range.2 hi, rfl⟩)))))
      omega
    haveI : Inhabited ByteArray := ⟨⟨#[]⟩⟩
    obtain ⟨f, hf⟩ := Deep.choose_lt each
    refine ⟨(List.range len).map fun i => (f i).data.toList, ⟨some a, c, by simp, fun i hi => ?_⟩, ?_, by simp; unfold maxLen at hm; omega⟩
    · have hi' : i < len := by simpa using hi
      have h0 := (hf i hi').1
      obtain ⟨b, off, rfl, _⟩ : ∃ b off, a = ⟨b, off, none⟩ ∧ True := by
        obtain ⟨b, off, spot⟩ := a
        cases spot with
        | none => exact ⟨b, off, rfl, trivial⟩
        | some s =>
          have h1 := (hf 0 (by omega)).1
          exfalso; clear h0 hf each hel h hx; simp [World.cell?, Addr.add] at h1; split at h1 <;> simp_all
      rw [addr_addX] at h0
      refine ⟨b, off, rfl, fun W t => ?_⟩
      rw [World.cell?_of_block (t.block b (World.block_lt_of_cell? _ _ h0) id), h0]
      simp
    · intro k hk
      obtain ⟨i, hi, rfl⟩ := List.mem_map.1 hk
      exact (hf i (List.mem_range.1 hi)).2
theorem cellsLr : Tryz.prog.cellsOf 29 = 1 := by kernel_rfl
theorem cellsLs : Tryz.prog.cellsOf 42 = 1 := by kernel_rfl
theorem cellsSx : Tryz.prog.cellsOf 44 = 28 := by kernel_rfl
theorem list28 (l : List Value) (h : l.length = 28) : ∃ v0 v1 v2 v3 v4 v5 v6 v7 v8 v9 v10 v11 v12 v13 v14 v15 v16 v17 v18 v19 v20 v21 v22 v23 v24 v25 v26 v27, l = [v0, v1, v2, v3, v4, v5, v6, v7, v8, v9, v10, v11, v12, v13, v14, v15, v16, v17, v18, v19, v20, v21, v22, v23, v24, v25, v26, v27] :=
  ⟨l.getD 0 undef, l.getD 1 undef, l.getD 2 undef, l.getD 3 undef, l.getD 4 undef, l.getD 5 undef, l.getD 6 undef, l.getD 7 undef, l.getD 8 undef, l.getD 9 undef, l.getD 10 undef, l.getD 11 undef, l.getD 12 undef, l.getD 13 undef, l.getD 14 undef, l.getD 15 undef, l.getD 16 undef, l.getD 17 undef, l.getD 18 undef, l.getD 19 undef, l.getD 20 undef, l.getD 21 undef, l.getD 22 undef, l.getD 23 undef, l.getD 24 undef, l.getD 25 undef, l.getD 26 undef, l.getD 27 undef, by
    have e : l = (List.range 28).map (fun i => l.getD i undef) := by
      apply List.ext_getElem
      · simp [h]
      · intro i h1 h2
        simp [h1]
    exact e⟩
set_option maxHeartbeats 4000000 in
theorem stepX_of {H : Type} {enc : TypeId × Value → H} {w : World} {held : Bool} {fuel : Nat} {cs : List Value} {x : DataW H × List MemPlace}
    (hcl : cs.length = 28) (h : DataW.trod enc Tryz.prog w 0 (fun _ => true) held fuel 44 cs = some x) (hw : ∀ y ∈ x.1.weights Tryz.prog 44, y ≤ reachBytes) :
    ∃ s : Sx, cs = s.vals.toList ∧ SxOk w s := by
  have hr := reachBytes_lt
  obtain ⟨xs, n, _, hx, _, hxl, hf⟩ := DataW.trod_struct Tryz.underlying44 h
  obtain ⟨v0, v1, v2, v3, v4, v5, v6, v7, v8, v9, v10, v11, v12, v13, v14, v15, v16, v17, v18, v19, v20, v21, v22, v23, v24, v25, v26, v27, rfl⟩ := list28 cs hcl
  have hxl6 : xs.length = 6 := hxl
  obtain ⟨y0, y1, y2, y3, y4, y5, rfl⟩ : ∃ y0 y1 y2 y3 y4 y5, xs = [y0, y1, y2, y3, y4, y5] := by
    match xs, hxl6 with
    | [y0, y1, y2, y3, y4, y5], _ => exact ⟨y0, y1, y2, y3, y4, y5, rfl⟩
  have g0 : DataW.trod enc Tryz.prog w 0 (fun _ => true) held n 3 [v0] = some y0 := by have := hf 0 _ rfl; simpa [cellsI] using this
  have g1 : DataW.trod enc Tryz.prog w 0 (fun _ => true) held n 41 [v1, v2, v3, v4, v5, v6, v7, v8, v9, v10, v11, v12, v13, v14, v15, v16, v17, v18, v19, v20, v21, v22] = some y1 := by have := hf 1 _ rfl; simpa [cellsI, cellsOp] using this
  have g2 : DataW.trod enc Tryz.prog w 0 (fun _ => true) held n 29 [v23] = some y2 := by have := hf 2 _ rfl; simpa [cellsI, cellsOp, cellsLr] using this
  have g3 : DataW.trod enc Tryz.prog w 0 (fun _ => true) held n 34 [v24, v25] = some y3 := by have := hf 3 _ rfl; simpa [cellsI, cellsOp, cellsLr, cellsId] using this
  have g4 : DataW.trod enc Tryz.prog w 0 (fun _ => true) held n 9 [v26] = some y4 := by have := hf 4 _ rfl; simpa [cellsI, cellsOp, cellsLr, cellsId, cellsS] using this
  have g5 : DataW.trod enc Tryz.prog w 0 (fun _ => true) held n 42 [v27] = some y5 := by have := hf 5 _ rfl; simpa [cellsI, cellsOp, cellsLr, cellsId, cellsS, cellsLs] using this
  have hd : x.1 = .agg [y0.1, y1.1, y2.1, y3.1, y4.1, y5.1] := by rw [hx]; rfl
  have hw5 : ∀ y ∈ y5.1.weights Tryz.prog 42, y ≤ reachBytes := fun y hy => hw y (by
    rw [hd]
    unfold DataW.weights
    rw [Tryz.underlying44]
    exact DataW.weights_mem_each (ts := [3, 41, 29, 34, 9, 42]) (j := 5) rfl rfl y hy)
  obtain ⟨k0, rfl, w0⟩ := i64_of g0
  obtain ⟨o, e1, ho, hs1, hs2⟩ := opCells_of g1
  obtain ⟨c, k, rfl, rfl, w3a, w3b⟩ := id_of g3
  obtain ⟨ky, rfl, w4⟩ := str_of g4
  obtain ⟨ks, hks, hkl, hkn⟩ := strsIn_of g5 hw5
  obtain ⟨ra, rn, rc, rfl⟩ : ∃ ra rn rc, v23 = .slice ra rn rc := by
    rcases DataW.trod_slice Tryz.underlying29 g2 with ⟨h0, _⟩ | ⟨a, len, cap, _, _, _, _, h0, _⟩
    · simp at h0; exact ⟨_, _, _, h0⟩
    · simp at h0; exact ⟨_, _, _, h0⟩
  obtain ⟨R, hR, hRs, -⟩ := argsR_of (ao := ra) (n := rn) (cap := rc) (by simpa [Value.cells] using g2)
  have hRl : R.length ≤ 9223372036854775807 := by
    obtain ⟨ao, cap, _, _, q2, q3⟩ := hRs.shape
    omega
  refine ⟨⟨k0, o, .slice ra rn rc, R, c, k, ky, v27, ks⟩, ?_, ⟨w0, ho, hRs, ⟨w3a.1, (by simp only; omega)⟩, ⟨w3b.1, (by simp only; omega)⟩, hks, hkl, hRl, hkn, hs1, hs2, w4⟩⟩
  have e2 : (Sx.vals ⟨k0, o, .slice ra rn rc, R, c, k, ky, v27, ks⟩).toList = .int .i64 k0 :: (o.vals.toList ++ [.slice ra rn rc, .int .u64 c, .int .u64 k, .string ky, v27]) := by kernel_rfl
  rw [e2, ← e1]; rfl
set_option maxHeartbeats 4000000 in
theorem stepsX_of {H : Type} {enc : TypeId × Value → H} {w : World} {held : Bool} {fuel n cap : Nat} {ao : Option Addr} {x : DataW H × List MemPlace}
    (h : DataW.trod enc Tryz.prog w 0 (fun _ => true) held fuel 22 (Value.slice ao n cap).cells.toList = some x) (hw : ∀ y ∈ x.1.weights Tryz.prog 22, y ≤ reachBytes) :
    ∃ l : List Sx, n = l.length ∧ LiesX w ao l ∧ n ≤ cap ∧ cap ≤ maxLen := by
  rcases Deep.open_slice Tryz.underlying22 h with ⟨hcs, hx⟩ | ⟨a, len, c, m, k, D, Pl, hcs, _, hl, hm, hmm, hx, hel⟩
  · simp [Value.cells] at hcs
    obtain ⟨rfl, rfl, rfl⟩ := hcs
    exact ⟨[], rfl, ⟨(by intro x hx; cases hx), (by intro i hi; simp at hi)⟩, Nat.le_refl _, by unfold maxLen; omega⟩
  · simp [Value.cells] at hcs
    obtain ⟨rfl, rfl, rfl⟩ := hcs
    simp only [if_true] at hmm
    have hD : x.1 = .slice ((List.range n).map D) ((List.range (m - n)).map fun j => D (n + j)) := by rw [hx]
    have each : ∀ i, i < n → ∃ s : Sx, SxOk w s ∧ ∀ j, j < 28 → w.cell? ((a.add (i * 28)).add j) = s.vals.toList[j]? := by
      intro i hi
      obtain ⟨cs', h1, h2⟩ := hel i (by omega)
      rw [cellsSx] at h1
      obtain ⟨_, hcl, hc⟩ := World.cells?_some h1
      obtain ⟨s, hs, hok⟩ := stepX_of hcl h2 (fun y hy => hw y (by
        rw [hD]; unfold DataW.weights; rw [Tryz.underlying22]
        exact List.mem_cons_of_mem _ (List.mem_append.2 (.inl (weightsAll_memX hy (List.mem_map.2 ⟨i, List.mem_range.2 hi, rfl⟩))))))
      exact ⟨s, hok, fun j hj => by rw [hc j hj, hs]⟩
    haveI : Inhabited Sx := ⟨⟨0, zeroO, .slice none 0 0, [], 0, 0, ⟨#[]⟩, .slice none 0 0, []⟩⟩
    obtain ⟨f, hf⟩ := Deep.choose_lt each
    refine ⟨(List.range n).map f, by simp, ⟨?_, ?_⟩, hl, hm⟩
    · intro y hy
      obtain ⟨i, hi, rfl⟩ := List.mem_map.1 hy
      exact (hf i (List.mem_range.1 hi)).1
    · intro i hi
      have hi' : i < n := by simpa using hi
      have hc := (hf i hi').2
      have h0 : w.cell? ((a.add (0 * 28)).add 0) = some (Value.int .i64 (f 0).what) := (hf 0 (by omega)).2 0 (by decide)
      obtain ⟨b, off, rfl, _⟩ : ∃ b off, a = ⟨b, off, none⟩ ∧ True := by
        obtain ⟨b, off, spot⟩ := a
        cases spot with
        | none => exact ⟨b, off, rfl, trivial⟩
        | some s => exfalso; clear hf each hel h hx hc; simp [World.cell?, Addr.add] at h0; split at h0 <;> simp_all
      refine ⟨b, off, rfl, fun j u hu => ?_⟩
      have el : ((List.range n).map f)[i] = f i := by simp
      rw [el] at hu
      have hj : j < 28 := (List.getElem?_eq_some_iff.1 hu).1
      have := hc j hj
      rw [addr_addX, addr_addX] at this
      rw [this]; exact hu
end Go.Proofs.YtodpdcflbnomgaaGreat
