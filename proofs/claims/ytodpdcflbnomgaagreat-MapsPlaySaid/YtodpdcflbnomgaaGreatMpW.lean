/- Package maps: (rank).with: a heap's new one goes up. -/
import Derived.Test.YtodpdcflbnomgaaGreatPart10
import Derived.Test.YtodpdcflbnomgaaGreatPart9
namespace Go.Proofs.YtodpdcflbnomgaaGreat
open Go.RowKit
set_option linter.unusedVariables false
set_option linter.unusedSimpArgs false
set_option maxRecDepth 100000

theorem wpO_of_run {P : Program} {o : Oper} {a : Act} {w w' : World} {K : Act → World → Prop} {Q : Exit → Act → World → Prop} {v : Value} (h : (execOp a.eval o).run P w = .ok (.value v) w') (hk : K (a.put o.dst v) w') : o.wp P a w K Q := by
  unfold Oper.wp
  rw [h]
  exact hk
def upO (l : List O) (i : Nat) : List O := @Heap.up O ⟨zeroO⟩ lessM l i
/-- with, as a function. -/
def withL (r : List O) (o : O) : List O := @Heap.withO O ⟨zeroO⟩ lessM r o
theorem upO_zero (l : List O) : upO l 0 = l := by
  have := @Heap.up.eq_1 O ⟨zeroO⟩ lessM l 0
  rw [dif_pos rfl] at this; exact this
theorem upO_stay {l : List O} {i a : Nat} (h : i ≠ 0) (ha : a = (i - 1) / 2) (hc : lessM (l.getD a zeroO) (l.getD i zeroO) = false) : upO l i = l := by
  have e := @Heap.up.eq_1 O ⟨zeroO⟩ lessM l i
  rw [dif_neg h, ← ha] at e
  rw [if_neg (fun h9 => by have h8 : lessM (l.getD a zeroO) (l.getD i zeroO) = true := h9; rw [hc] at h8; cases h8)] at e
  exact e
theorem upO_go {l : List O} {i a : Nat} (h : i ≠ 0) (ha : a = (i - 1) / 2) (hc : lessM (l.getD a zeroO) (l.getD i zeroO) = true) : upO l i = upO ((l.set a (l.getD i zeroO)).set i (l.getD a zeroO)) a := by
  have e := @Heap.up.eq_1 O ⟨zeroO⟩ lessM l i
  rw [dif_neg h, ← ha] at e
  rw [if_pos (c := lessM (l.getD a (@default O ⟨zeroO⟩)) (l.getD i (@default O ⟨zeroO⟩)) = true) hc] at e
  exact e
theorem withL_eq (r : List O) (o : O) : withL r o = upO (r ++ [o]) r.length := rfl
theorem run_build1 (o : O) (W : World) : (Instr.buildSlice 68 1 #[(0, o.val)]).run Tryz.prog W = .ok (.slice (some ⟨W.heap.size, 0, none⟩) 1 1) (W.alloc (opO o)) := by kernel_rfl
set_option maxHeartbeats 16000000 in
theorem with_any (r : List O) (o : O) (v : Value) (w : World) (h : RowOn w v r) (hl : r.length ≤ 1000000) :
    Calls Tryz.prog 34 #[v, o.val] w fun e w' => ∃ v', e = .returned v' ∧ RowOn w' v' (withL r o) ∧ Touch (fun k => v.ownBlock = some k) w w' ∧ (v'.ownBlock = v.ownBlock ∨ ∃ k, v'.ownBlock = some k ∧ w.heap.size ≤ k) := by
  obtain ⟨E, hE⟩ : ∃ E, Hid (E = w.alloc (opO o)) := ⟨_, Eq.refl _⟩
  have HTE : Hid (Touch (fun _ => False) w E) := by rw [hE.out]; exact (Touch.refl _ _).alloc _
  have HB : Hid (OpAt w.heap.size o E) := by rw [hE.out]; exact heap_alloc_new _ _
  have hvlt : ∀ k, v.ownBlock = some k → k < w.heap.size := fun k hk => by
    rcases h.2 with ⟨e, h0⟩ | ⟨g, cap, cur, e, hb, hg, _⟩
    · rw [e] at hk; simp [Value.ownBlock] at hk
    · rw [e] at hk; simp only [Value.ownBlock, Option.some.injEq] at hk; subst hk; exact lt_of_heap hg
  obtain ⟨Lf, hLf⟩ : ∃ L, Hid (L = withL r o) := ⟨_, Eq.refl _⟩
  rw [← hLf.out]
  -- the append
  have hrowE : RowOn (E.alloc (opO o)) v r := h.keep (HTE.out.trans ((Touch.refl _ E).alloc _)) (fun _ _ => id)
  obtain ⟨v', W1, hrun, hown, hg1, hb1⟩ := run_appendP (E.alloc (opO o)) v r hrowE (some ⟨E.heap.size, 0, none⟩) 1 1 [o] rfl (fun h => by cases h) (LiesP.new E o) (by simp; omega)
  have hrow1 : RowOn W1 v' (r ++ [o]) := hown
  have HT1 : Hid (Touch (fun k => v.ownBlock = some k) w W1) := by
    have t1 : Touch (fun k => v.ownBlock = some k) w (E.alloc (opO o)) := (HTE.out.trans ((Touch.refl _ E).alloc _)).mono fun _ _ q => q.elim
    exact t1.grown hg1 fun i e _ => e
  have HO : Hid (v'.ownBlock = v.ownBlock ∨ ∃ k, v'.ownBlock = some k ∧ w.heap.size ≤ k) := by
    rcases hb1 with e | e
    · exact .inl e
    · exact .inr ⟨_, e, by have := HTE.out.size; simp; omega⟩
  have hlen : (r ++ [o]).length = r.length + 1 := by simp
  obtain ⟨g, cap, hv', hcap, hcm, hgl⟩ := hrow1.shape (by omega)
  obtain ⟨q, hq⟩ : ∃ q, q = 0 := ⟨0, rfl⟩
  have Hq : Hid (q = 0) := hq
  rw [show (⟨g, 0, none⟩ : Addr) = ⟨g, q, none⟩ by rw [hq]] at hv'
  obtain ⟨n, hn⟩ : ∃ n, n = (r ++ [o]).length := ⟨_, rfl⟩
  rw [← hn] at hv' hcap
  have HN : Hid (n = (r ++ [o]).length ∧ n = r.length + 1 ∧ n ≤ 1000001) := ⟨hn, by omega, by omega⟩
  have hn1 : 1 ≤ (n : Int) := by omega
  have hn2 : (n : Int) ≤ 1000001 := by omega
  have hwn : IntKind.i64.wrap ((n : Int) - 1) = ((n - 1 : Nat) : Int) := by rw [IntKind.wrap_i64]; omega
  subst hv'
  have HR1 : Hid (RowOn W1 (.slice (some ⟨g, q, none⟩) n cap) (r ++ [o])) := hrow1
  have HG : Hid (∀ k, k = g → v.ownBlock = some k ∨ w.heap.size ≤ k) := by
    intro k hk
    subst hk
    rcases HO.out with e | ⟨k2, e, h2⟩
    · exact .inl (by rw [← e]; rfl)
    · simp only [Value.ownBlock, Option.some.injEq] at e; subst e; exact .inr h2
  have HUp : Hid (Lf = upO (r ++ [o]) (n - 1)) := by rw [Hid, hLf.out, withL_eq]; congr 1; omega
  have hbs := run_build1 o
  clear h hrowE hown hg1 hb1 hrow1 hlen hgl hq hn hLf hvlt hl
  have hv9 : ∃ x, Hid (x = v) := ⟨v, Eq.refl _⟩
  go_enter Tryz.func34, Tryz.ntmps34
  go_upto_region 1 with fail
  rw [← hE.out]
  clear hE
  refine wp_region_lit ?_
  iterate 1 (refine wpList_plain rfl fun K hK => ?_; go_simp; refine hK _ _ ?_; clear hK K)
  refine wpList_load_mid rfl 41 (.tmp 3) rfl w.heap.size 0 rfl o.vals.toList _ (rangeAt_of HB.out) Tryz.underlying41 rfl (by kernel_rfl) ?_
  simp only [Act.put, List.setIfInBounds_toArray, List.set_cons_succ, List.set_cons_zero]
  iterate 1 (refine wpList_plain rfl fun K hK => ?_; go_simp; refine hK _ _ ?_; clear hK K)
  refine wpList_append_runP rfl (.tmp 7) (.tmp 9) rfl v _ _ rfl rfl hrun ?_
  simp only [Act.put, List.setIfInBounds_toArray, List.set_cons_succ, List.set_cons_zero]
  clear hrun hbs HB HTE
  generalize Value.agg o.vals = vo
  go_wp2_with fail
  go_loopw [5] (fun s wr => ∃ (i : Nat) (L : List O), s = .int .i64 (i : Int) ∧ Hid (i < n ∧ n = L.length ∧ Lf = upO L i ∧ RowOn wr (.slice (some ⟨g, q, none⟩) n cap) L ∧ Touch (fun k => v.ownBlock = some k) w wr)) (fun s _ => (intOf s).toNat)
  case atStart => exact ⟨n - 1, r ++ [o], rfl, by have := HN.out; omega, HN.out.1, HUp.out, HR1.out, HT1.out⟩
  case round =>
    obtain ⟨i, L, hi, HR⟩ := hrel
    subst hi
    by_cases h0 : i = 0
    · have HE0 : Hid (Lf = L) := by have := HR.out.2.2.1; rw [h0, upO_zero] at this; exact this
      have d1 : ¬ (0 : Int) < (i : Int) := by omega
      go_wp2_with fail
      go_ret
      exact ⟨_, rfl, by rw [HE0.out]; exact HR.out.2.2.2.1, HR.out.2.2.2.2, HO.out⟩
    · have d1 : (0 : Int) < (i : Int) := by omega
      obtain ⟨a, ha⟩ : ∃ a, a = (i - 1) / 2 := ⟨_, rfl⟩
      have hin := HR.out.1
      have hm1 : IntKind.i64.wrap ((i : Int) - 1) = ((i - 1 : Nat) : Int) := by rw [IntKind.wrap_i64]; omega
      have hq1 : Int.tdiv ((i - 1 : Nat) : Int) 2 = (a : Int) := by rw [Int.tdiv_eq_ediv_of_nonneg (by omega), ha]; omega
      have hq2 : IntKind.i64.wrap (a : Int) = (a : Int) := by rw [IntKind.wrap_i64]; omega
      have a0 : (0 : Int) ≤ (a : Int) := by omega
      have a1 : (a : Int) < (n : Int) := by omega
      have i0 : (0 : Int) ≤ (i : Int) := by omega
      have i1 : (i : Int) < (n : Int) := by omega
      have hai : a < i := by omega
      obtain ⟨ox, hox⟩ : ∃ x, Hid (x = L.getD a zeroO) := ⟨_, Eq.refl _⟩
      obtain ⟨oy, hoy⟩ : ∃ x, Hid (x = L.getD i zeroO) := ⟨_, Eq.refl _⟩
      have td : Touch (fun _ => False) wr wr.drew := (Touch.refl _ _).drew
      have hLn := HR.out.2.1
      have hex : ∀ (W : World), RowOn W (.slice (some ⟨g, q, none⟩) n cap) L → W.rangeAt g (q + a * 22) ox.vals.toList ∧ W.rangeAt g (q + i * 22) oy.vals.toList ∧ W.there g (q + a * 22) 22 ∧ W.there g (q + i * 22) 22 := by
        intro W hW
        have eq0 := Hq.out
        subst eq0
        have ew : (Value.slice (some ⟨g, 0, none⟩) n cap) = .slice (some ⟨g, 0, none⟩) L.length cap := by rw [hLn]
        have r1 := RowOn.range hW ew a (by omega)
        have r2 := RowOn.range hW ew i (by omega)
        rw [show L[a]'(by omega) = ox by rw [hox.out, rowO_at L a (by omega)]] at r1
        rw [show L[i]'(by omega) = oy by rw [hoy.out, rowO_at L i (by omega)]] at r2
        rw [Nat.zero_add, Nat.zero_add]
        exact ⟨r1, r2, RowOn.there hW ew a (by omega), RowOn.there hW ew i (by omega)⟩
      have HEx : Hid (∀ (W : World), RowOn W (.slice (some ⟨g, q, none⟩) n cap) L → W.rangeAt g (q + a * 22) ox.vals.toList ∧ W.rangeAt g (q + i * 22) oy.vals.toList ∧ W.there g (q + a * 22) 22 ∧ W.there g (q + i * 22) 22) := hex
      have HRd : Hid ((wr.drew.rangeAt g (q + a * 22) ox.vals.toList ∧ wr.drew.rangeAt g (q + i * 22) oy.vals.toList) ∧ Touch (fun _ => False) wr wr.drew) := by
        have := hex wr.drew (HR.out.2.2.2.1.keep td (fun _ _ => id))
        exact ⟨⟨this.1, this.2.1⟩, td⟩
      obtain ⟨lb, hlb⟩ : ∃ lb, Hid (lessM ox oy = lb) := ⟨_, Eq.refl _⟩
      have Hlb : Hid (lessM ox oy = lb) := hlb
      have HAI : Hid (a < i ∧ i < n ∧ a = (i - 1) / 2 ∧ i ≠ 0 ∧ n = L.length) := ⟨hai, hin, ha, h0, hLn⟩
      clear hex hlb td hai hin ha h0 hLn
      go_upto_region 5 with fail
      refine region_G (S := fun V => V.rangeAt g (q + a * 22) ox.vals.toList ∧ V.rangeAt g (q + i * 22) oy.vals.toList) (late := fun k => k == 8) (by kernel_rfl) ?_
      obtain ⟨V, hV⟩ : ∃ V, Hid (V = wr.drew) := ⟨_, Eq.refl _⟩
      rw [← hV.out] at HRd ⊢
      clear hV
      have hHeld := HRd.out.1
      refine wpAnyG_pure (i := 0) (oi := { dst := some 19, op := Go.Op.move (Go.Operand.tmp 0), type := 68, pos := "rank.go:16", after := #[], guard := none }) (v := .slice (some ⟨g, q, none⟩) n cap) rfl (by kernel_rfl) (by kernel_rfl) (by kernel_rfl) (by kernel_rfl) (fun _ _ _ h => h) (Or.inl ⟨by kernel_rfl, ?_⟩) hHeld ?_
      · intro V1 _; go_simp
      simp only [Act.put, List.setIfInBounds_toArray, List.set_cons_succ, List.set_cons_zero]
      refine wpAnyG_pure (i := 1) (oi := { dst := some 20, op := Go.Op.move (Go.Operand.tmp 6), type := 3, pos := "rank.go:16", after := #[], guard := none }) (v := .int .i64 (a : Int)) rfl (by kernel_rfl) (by kernel_rfl) (by kernel_rfl) (by kernel_rfl) (fun _ _ _ h => h) (Or.inl ⟨by kernel_rfl, ?_⟩) hHeld ?_
      · intro V1 _; go_simp
      simp only [Act.put, List.setIfInBounds_toArray, List.set_cons_succ, List.set_cons_zero]
      refine wpAnyG_pure (i := 2) (oi := { dst := some 21, op := Go.Op.indexAddr 68 (Go.Operand.tmp 19) (Go.Operand.tmp 20), type := 0, pos := "rank.go:16", after := #[{ on := 0, ground := Go.Ground.data }, { on := 1, ground := Go.Ground.data }], guard := none }) (v := .pointer (some ⟨g, q + a * 22, none⟩)) rfl (by kernel_rfl) (by kernel_rfl) (by kernel_rfl) (by kernel_rfl) (fun _ _ _ h => h) (Or.inl ⟨by kernel_rfl, ?_⟩) hHeld ?_
      · intro V1 _; go_simp
      simp only [Act.put, List.setIfInBounds_toArray, List.set_cons_succ, List.set_cons_zero]
      refine wpAnyG_take (i := 3) (oi := { dst := some 22, op := Go.Op.load 41 (Go.Operand.tmp 21), type := 41, pos := "rank.go:16", after := #[{ on := 2, ground := Go.Ground.data }], guard := none }) (v := .agg ox.vals) rfl (by kernel_rfl) (by kernel_rfl) (by kernel_rfl) (by kernel_rfl) (by kernel_rfl) (by kernel_rfl) (fun _ _ _ h => h) (yieldsIf_load_mid (by kernel_rfl) 41 (.tmp 21) rfl g (q + a * 22) rfl ox.vals.toList _ (fun V1 hV1 => hV1.1) Tryz.underlying41 rfl (by kernel_rfl)) hHeld ?_
      simp only [Act.put, List.setIfInBounds_toArray, List.set_cons_succ, List.set_cons_zero]
      refine wpAnyG_pure (i := 4) (oi := { dst := some 23, op := Go.Op.move (Go.Operand.tmp 0), type := 68, pos := "rank.go:16", after := #[], guard := none }) (v := .slice (some ⟨g, q, none⟩) n cap) rfl (by kernel_rfl) (by kernel_rfl) (by kernel_rfl) (by kernel_rfl) (fun _ _ _ h => h) (Or.inl ⟨by kernel_rfl, ?_⟩) hHeld ?_
      · intro V1 _; go_simp
      simp only [Act.put, List.setIfInBounds_toArray, List.set_cons_succ, List.set_cons_zero]
      refine wpAnyG_pure (i := 5) (oi := { dst := some 24, op := Go.Op.move (Go.Operand.tmp 5), type := 3, pos := "rank.go:16", after := #[], guard := none }) (v := .int .i64 (i : Int)) rfl (by kernel_rfl) (by kernel_rfl) (by kernel_rfl) (by kernel_rfl) (fun _ _ _ h => h) (Or.inl ⟨by kernel_rfl, ?_⟩) hHeld ?_
      · intro V1 _; go_simp
      simp only [Act.put, List.setIfInBounds_toArray, List.set_cons_succ, List.set_cons_zero]
      refine wpAnyG_pure (i := 6) (oi := { dst := some 25, op := Go.Op.indexAddr 68 (Go.Operand.tmp 23) (Go.Operand.tmp 24), type := 0, pos := "rank.go:16", after := #[{ on := 4, ground := Go.Ground.data }, { on := 5, ground := Go.Ground.data }], guard := none }) (v := .pointer (some ⟨g, q + i * 22, none⟩)) rfl (by kernel_rfl) (by kernel_rfl) (by kernel_rfl) (by kernel_rfl) (fun _ _ _ h => h) (Or.inl ⟨by kernel_rfl, ?_⟩) hHeld ?_
      · intro V1 _; go_simp
      simp only [Act.put, List.setIfInBounds_toArray, List.set_cons_succ, List.set_cons_zero]
      refine wpAnyG_take (i := 7) (oi := { dst := some 26, op := Go.Op.load 41 (Go.Operand.tmp 25), type := 41, pos := "rank.go:16", after := #[{ on := 6, ground := Go.Ground.data }], guard := none }) (v := .agg oy.vals) rfl (by kernel_rfl) (by kernel_rfl) (by kernel_rfl) (by kernel_rfl) (by kernel_rfl) (by kernel_rfl) (fun _ _ _ h => h) (yieldsIf_load_mid (by kernel_rfl) 41 (.tmp 25) rfl g (q + i * 22) rfl oy.vals.toList _ (fun V1 hV1 => hV1.2) Tryz.underlying41 rfl (by kernel_rfl)) hHeld ?_
      simp only [Act.put, List.setIfInBounds_toArray, List.set_cons_succ, List.set_cons_zero]
      clear hHeld
      refine wpAnyG_call (i := 8) (o := { dst := some 27, op := Go.Op.call { callee := Go.Callee.value (Go.Operand.func 55), args := #[Go.Operand.tmp 22, Go.Operand.tmp 26], argTypes := #[41, 41] }, type := 4, pos := "rank.go:16", after := #[{ on := 3, ground := Go.Ground.data }, { on := 7, ground := Go.Ground.data }], guard := none }) rfl (by kernel_rfl) (by kernel_rfl) (by kernel_rfl) (fun K hK => ?_)
      go_simp
      refine (mless_any ox oy V).mono ?_
      rintro e w2 ⟨rfl, t2⟩
      have HT2 : Hid (Touch (fun _ => False) V w2) := t2
      clear t2
      rw [Hlb.out]
      refine hK.out _ _ ?_
      clear hK K
      clear a0 a1 i0 i1
      cases lb with
      | false =>
        refine wpAnyG_one (i := 9) (o := { dst := some 28, op := Go.Op.unOp Go.UnOp.not 4 (Go.Operand.tmp 27), type := 4, pos := "rank.go:16", after := #[{ on := 8, ground := Go.Ground.data }], guard := none }) rfl (by kernel_rfl) (by kernel_rfl) (by kernel_rfl) ?_
        refine wpO_of_run (v := .bool true) (w' := w2) ?_ ?_
        · go_simp
        simp only [Act.put, List.setIfInBounds_toArray, List.set_cons_succ, List.set_cons_zero]
        refine wpAnyG_done (by kernel_rfl) ?_
        refine NoPanic.normal ?_
        have HTw : Hid (Touch (fun _ => False) wr w2) := HRd.out.2.trans HT2.out
        clear HT2 HRd
        generalize Value.agg ox.vals = va
        generalize Value.agg oy.vals = vb
        have HE0 : Hid (Lf = L) := by
          have h1 := HR.out.2.2.1
          have h2 := HAI.out
          rw [h1]; exact upO_stay h2.2.2.2.1 h2.2.2.1 (by rw [← hox.out, ← hoy.out]; exact Hlb.out)
        go_wp2_with fail
        go_ret
        exact ⟨_, rfl, by rw [HE0.out]; exact HR.out.2.2.2.1.keep HTw.out (fun _ _ => id), HR.out.2.2.2.2.trans (HTw.out.mono fun _ _ q => q.elim), HO.out⟩
      | true =>
        refine wpAnyG_one (i := 9) (o := { dst := some 28, op := Go.Op.unOp Go.UnOp.not 4 (Go.Operand.tmp 27), type := 4, pos := "rank.go:16", after := #[{ on := 8, ground := Go.Ground.data }], guard := none }) rfl (by kernel_rfl) (by kernel_rfl) (by kernel_rfl) ?_
        refine wpO_of_run (v := .bool false) (w' := w2) ?_ ?_
        · go_simp
        simp only [Act.put, List.setIfInBounds_toArray, List.set_cons_succ, List.set_cons_zero]
        refine wpAnyG_done (by kernel_rfl) ?_
        refine NoPanic.normal ?_
        have HTw : Hid (Touch (fun _ => False) wr w2) := HRd.out.2.trans HT2.out
        clear HT2 HRd
        generalize Value.agg ox.vals = va
        generalize Value.agg oy.vals = vb
        obtain ⟨Lz, hLz⟩ : ∃ Lz, Hid (Lz = (L.set a oy).set i ox) := ⟨_, Eq.refl _⟩
        have HSd : Hid ((w2.drew.rangeAt g (q + i * 22) oy.vals.toList ∧ w2.drew.rangeAt g (q + a * 22) ox.vals.toList) ∧ w2.drew.there g (q + a * 22) 22 ∧ w2.drew.there g (q + i * 22) 22 ∧ RowOn ((w2.drew.setCells g (q + a * 22) oy.vals.toList).setCells g (q + i * 22) ox.vals.toList) (.slice (some ⟨g, q, none⟩) n cap) Lz ∧ Touch (fun k => k = g) wr ((w2.drew.setCells g (q + a * 22) oy.vals.toList).setCells g (q + i * 22) ox.vals.toList)) := by
          have hrd : RowOn w2.drew (.slice (some ⟨g, q, none⟩) n cap) L := HR.out.2.2.2.1.keep (HTw.out.trans (Touch.refl _ _).drew) (fun _ _ => id)
          have h1 := HEx.out w2.drew hrd
          have h2 := HAI.out
          refine ⟨⟨h1.2.1, h1.1⟩, h1.2.2.1, h1.2.2.2, ?_, ?_⟩
          · rw [hLz.out]
            have eq0 := Hq.out
            subst eq0
            have ew : (Value.slice (some ⟨g, 0, none⟩) n cap) = .slice (some ⟨g, 0, none⟩) L.length cap := by rw [h2.2.2.2.2]
            have := RowOn.swap hrd ew a i (by omega) (by omega)
            rw [show L[a]'(by omega) = ox by rw [hox.out, rowO_at L a (by omega)], show L[i]'(by omega) = oy by rw [hoy.out, rowO_at L i (by omega)]] at this
            rw [Nat.zero_add, Nat.zero_add]
            exact this
          · exact (((HTw.out.trans (Touch.refl _ _).drew).mono fun _ _ q => q.elim).trans (Touch.cells g _ _ _)).trans (Touch.cells g _ _ _)
        have HUz : Hid (Lf = upO Lz a ∧ n = Lz.length) := by
          have h1 := HR.out.2.2.1
          have h2 := HAI.out
          refine ⟨?_, by rw [hLz.out]; simp; exact h2.2.2.2.2⟩
          rw [h1, hLz.out, hox.out, hoy.out]; exact upO_go h2.2.2.2.1 h2.2.2.1 (by rw [← hox.out, ← hoy.out]; exact Hlb.out)
        have a0 : (0 : Int) ≤ (a : Int) := by omega
        have a1 : (a : Int) < (n : Int) := by have := HAI.out; omega
        have i0 : (0 : Int) ≤ (i : Int) := by omega
        have i1 : (i : Int) < (n : Int) := by have := HAI.out; omega
        have HT0 := HR.out.2.2.2.2
        have HTq : Hid (Touch (fun k => v.ownBlock = some k) w wr) := HT0
        clear HT0 HR hLz hox hoy HEx HTw
        go_upto_region 6 with fail
        refine region_G (S := fun V => V.rangeAt g (q + i * 22) oy.vals.toList ∧ V.rangeAt g (q + a * 22) ox.vals.toList) (late := fun k => decide (12 ≤ k)) (by kernel_rfl) ?_
        obtain ⟨V, hV⟩ : ∃ V, Hid (V = w2.drew) := ⟨_, Eq.refl _⟩
        rw [← hV.out] at HSd ⊢
        clear hV
        have hHeld := HSd.out.1
        refine wpAnyG_pure (i := 0) (oi := { dst := some 29, op := Go.Op.move (Go.Operand.tmp 0), type := 68, pos := "rank.go:19", after := #[], guard := none }) (v := .slice (some ⟨g, q, none⟩) n cap) rfl (by kernel_rfl) (by kernel_rfl) (by kernel_rfl) (by kernel_rfl) (fun _ _ _ h => h) (Or.inl ⟨by kernel_rfl, ?_⟩) hHeld ?_
        · intro V1 _; go_simp
        simp only [Act.put, List.setIfInBounds_toArray, List.set_cons_succ, List.set_cons_zero]
        refine wpAnyG_pure (i := 1) (oi := { dst := some 30, op := Go.Op.move (Go.Operand.tmp 6), type := 3, pos := "rank.go:19", after := #[], guard := none }) (v := .int .i64 (a : Int)) rfl (by kernel_rfl) (by kernel_rfl) (by kernel_rfl) (by kernel_rfl) (fun _ _ _ h => h) (Or.inl ⟨by kernel_rfl, ?_⟩) hHeld ?_
        · intro V1 _; go_simp
        simp only [Act.put, List.setIfInBounds_toArray, List.set_cons_succ, List.set_cons_zero]
        refine wpAnyG_pure (i := 2) (oi := { dst := some 31, op := Go.Op.move (Go.Operand.tmp 0), type := 68, pos := "rank.go:19", after := #[{ on := 13, ground := Go.Ground.gcOnly Go.Departure.lateStores }], guard := none }) (v := .slice (some ⟨g, q, none⟩) n cap) rfl (by kernel_rfl) (by kernel_rfl) (by kernel_rfl) (by kernel_rfl) (fun _ _ _ h => h) (Or.inl ⟨by kernel_rfl, ?_⟩) hHeld ?_
        · intro V1 _; go_simp
        simp only [Act.put, List.setIfInBounds_toArray, List.set_cons_succ, List.set_cons_zero]
        refine wpAnyG_pure (i := 3) (oi := { dst := some 32, op := Go.Op.move (Go.Operand.tmp 5), type := 3, pos := "rank.go:19", after := #[{ on := 13, ground := Go.Ground.gcOnly Go.Departure.lateStores }], guard := none }) (v := .int .i64 (i : Int)) rfl (by kernel_rfl) (by kernel_rfl) (by kernel_rfl) (by kernel_rfl) (fun _ _ _ h => h) (Or.inl ⟨by kernel_rfl, ?_⟩) hHeld ?_
        · intro V1 _; go_simp
        simp only [Act.put, List.setIfInBounds_toArray, List.set_cons_succ, List.set_cons_zero]
        refine wpAnyG_pure (i := 4) (oi := { dst := some 33, op := Go.Op.move (Go.Operand.tmp 0), type := 68, pos := "rank.go:19", after := #[], guard := none }) (v := .slice (some ⟨g, q, none⟩) n cap) rfl (by kernel_rfl) (by kernel_rfl) (by kernel_rfl) (by kernel_rfl) (fun _ _ _ h => h) (Or.inl ⟨by kernel_rfl, ?_⟩) hHeld ?_
        · intro V1 _; go_simp
        simp only [Act.put, List.setIfInBounds_toArray, List.set_cons_succ, List.set_cons_zero]
        refine wpAnyG_pure (i := 5) (oi := { dst := some 34, op := Go.Op.move (Go.Operand.tmp 5), type := 3, pos := "rank.go:19", after := #[], guard := none }) (v := .int .i64 (i : Int)) rfl (by kernel_rfl) (by kernel_rfl) (by kernel_rfl) (by kernel_rfl) (fun _ _ _ h => h) (Or.inl ⟨by kernel_rfl, ?_⟩) hHeld ?_
        · intro V1 _; go_simp
        simp only [Act.put, List.setIfInBounds_toArray, List.set_cons_succ, List.set_cons_zero]
        refine wpAnyG_pure (i := 6) (oi := { dst := some 35, op := Go.Op.indexAddr 68 (Go.Operand.tmp 33) (Go.Operand.tmp 34), type := 0, pos := "rank.go:19", after := #[{ on := 4, ground := Go.Ground.data }, { on := 5, ground := Go.Ground.data }], guard := none }) (v := .pointer (some ⟨g, q + i * 22, none⟩)) rfl (by kernel_rfl) (by kernel_rfl) (by kernel_rfl) (by kernel_rfl) (fun _ _ _ h => h) (Or.inl ⟨by kernel_rfl, ?_⟩) hHeld ?_
        · intro V1 _; go_simp
        simp only [Act.put, List.setIfInBounds_toArray, List.set_cons_succ, List.set_cons_zero]
        refine wpAnyG_take (i := 7) (oi := { dst := some 36, op := Go.Op.load 41 (Go.Operand.tmp 35), type := 41, pos := "rank.go:19", after := #[{ on := 6, ground := Go.Ground.data }], guard := none }) (v := .agg oy.vals) rfl (by kernel_rfl) (by kernel_rfl) (by kernel_rfl) (by kernel_rfl) (by kernel_rfl) (by kernel_rfl) (fun _ _ _ h => h) (yieldsIf_load_mid (by kernel_rfl) 41 (.tmp 35) rfl g (q + i * 22) rfl oy.vals.toList _ (fun V1 hV1 => hV1.1) Tryz.underlying41 rfl (by kernel_rfl)) hHeld ?_
        simp only [Act.put, List.setIfInBounds_toArray, List.set_cons_succ, List.set_cons_zero]
        refine wpAnyG_pure (i := 8) (oi := { dst := some 37, op := Go.Op.move (Go.Operand.tmp 0), type := 68, pos := "rank.go:19", after := #[], guard := none }) (v := .slice (some ⟨g, q, none⟩) n cap) rfl (by kernel_rfl) (by kernel_rfl) (by kernel_rfl) (by kernel_rfl) (fun _ _ _ h => h) (Or.inl ⟨by kernel_rfl, ?_⟩) hHeld ?_
        · intro V1 _; go_simp
        simp only [Act.put, List.setIfInBounds_toArray, List.set_cons_succ, List.set_cons_zero]
        refine wpAnyG_pure (i := 9) (oi := { dst := some 38, op := Go.Op.move (Go.Operand.tmp 6), type := 3, pos := "rank.go:19", after := #[], guard := none }) (v := .int .i64 (a : Int)) rfl (by kernel_rfl) (by kernel_rfl) (by kernel_rfl) (by kernel_rfl) (fun _ _ _ h => h) (Or.inl ⟨by kernel_rfl, ?_⟩) hHeld ?_
        · intro V1 _; go_simp
        simp only [Act.put, List.setIfInBounds_toArray, List.set_cons_succ, List.set_cons_zero]
        refine wpAnyG_pure (i := 10) (oi := { dst := some 39, op := Go.Op.indexAddr 68 (Go.Operand.tmp 37) (Go.Operand.tmp 38), type := 0, pos := "rank.go:19", after := #[{ on := 8, ground := Go.Ground.data }, { on := 9, ground := Go.Ground.data }], guard := none }) (v := .pointer (some ⟨g, q + a * 22, none⟩)) rfl (by kernel_rfl) (by kernel_rfl) (by kernel_rfl) (by kernel_rfl) (fun _ _ _ h => h) (Or.inl ⟨by kernel_rfl, ?_⟩) hHeld ?_
        · intro V1 _; go_simp
        simp only [Act.put, List.setIfInBounds_toArray, List.set_cons_succ, List.set_cons_zero]
        refine wpAnyG_take (i := 11) (oi := { dst := some 40, op := Go.Op.load 41 (Go.Operand.tmp 39), type := 41, pos := "rank.go:19", after := #[{ on := 10, ground := Go.Ground.data }], guard := none }) (v := .agg ox.vals) rfl (by kernel_rfl) (by kernel_rfl) (by kernel_rfl) (by kernel_rfl) (by kernel_rfl) (by kernel_rfl) (fun _ _ _ h => h) (yieldsIf_load_mid (by kernel_rfl) 41 (.tmp 39) rfl g (q + a * 22) rfl ox.vals.toList _ (fun V1 hV1 => hV1.2) Tryz.underlying41 rfl (by kernel_rfl)) hHeld ?_
        simp only [Act.put, List.setIfInBounds_toArray, List.set_cons_succ, List.set_cons_zero]
        clear hHeld
        refine wpAnyG_one (i := 12) (o := { dst := some 41, op := Go.Op.indexAddr 68 (Go.Operand.tmp 29) (Go.Operand.tmp 30), type := 0, pos := "rank.go:19", after := #[{ on := 0, ground := Go.Ground.data }, { on := 1, ground := Go.Ground.data }, { on := 0, ground := Go.Ground.phase }, { on := 1, ground := Go.Ground.phase }, { on := 2, ground := Go.Ground.textOnly Go.Departure.lateStores }, { on := 3, ground := Go.Ground.textOnly Go.Departure.lateStores }, { on := 4, ground := Go.Ground.phase }, { on := 5, ground := Go.Ground.phase }, { on := 6, ground := Go.Ground.phase }, { on := 7, ground := Go.Ground.phase }, { on := 8, ground := Go.Ground.textOnly Go.Departure.lateStores }, { on := 9, ground := Go.Ground.textOnly Go.Departure.lateStores }, { on := 10, ground := Go.Ground.textOnly Go.Departure.lateStoresUnsure }, { on := 11, ground := Go.Ground.phase }], guard := none }) rfl (by kernel_rfl) (by kernel_rfl) (by kernel_rfl) ?_
        refine wpO_of_run (v := .pointer (some ⟨g, q + a * 22, none⟩)) (w' := V) ?_ ?_
        · go_simp
        simp only [Act.put, List.setIfInBounds_toArray, List.set_cons_succ, List.set_cons_zero]
        refine wpAnyG_one (i := 13) (o := { dst := none, op := Go.Op.store 41 (Go.Operand.tmp 41) (Go.Operand.tmp 36), type := 0, pos := "rank.go:19", after := #[{ on := 12, ground := Go.Ground.data }, { on := 7, ground := Go.Ground.data }, { on := 0, ground := Go.Ground.phase }, { on := 1, ground := Go.Ground.phase }, { on := 2, ground := Go.Ground.textOnly Go.Departure.lateStores }, { on := 3, ground := Go.Ground.textOnly Go.Departure.lateStores }, { on := 4, ground := Go.Ground.phase }, { on := 5, ground := Go.Ground.phase }, { on := 6, ground := Go.Ground.phase }, { on := 7, ground := Go.Ground.phase }, { on := 8, ground := Go.Ground.textOnly Go.Departure.lateStores }, { on := 9, ground := Go.Ground.textOnly Go.Departure.lateStores }, { on := 10, ground := Go.Ground.textOnly Go.Departure.lateStoresUnsure }, { on := 11, ground := Go.Ground.phase }], guard := none }) rfl (by kernel_rfl) (by kernel_rfl) (by kernel_rfl) ?_
        refine wp_store_mid 41 (.tmp 41) (.tmp 36) rfl g (q + a * 22) oy.vals rfl rfl HSd.out.2.1 (by kernel_rfl) (by kernel_rfl) ?_
        simp only [Act.put]
        have HX9 : Hid ((V.setCells g (q + a * 22) oy.vals.toList).there g (q + i * 22) 22 ∧ RowOn ((V.setCells g (q + a * 22) oy.vals.toList).setCells g (q + i * 22) ox.vals.toList) (.slice (some ⟨g, q, none⟩) n cap) Lz ∧ Touch (fun k => k = g) wr ((V.setCells g (q + a * 22) oy.vals.toList).setCells g (q + i * 22) ox.vals.toList)) := ⟨World.there_setCells HSd.out.2.2.1 _ _ _, HSd.out.2.2.2⟩
        clear HSd
        obtain ⟨V2, hV2⟩ : ∃ V2, Hid (V2 = V.setCells g (q + a * 22) oy.vals.toList) := ⟨_, Eq.refl _⟩
        rw [← hV2.out] at HX9 ⊢
        clear hV2
        refine wpAnyG_one (i := 14) (o := { dst := some 42, op := Go.Op.indexAddr 68 (Go.Operand.tmp 31) (Go.Operand.tmp 32), type := 0, pos := "rank.go:19", after := #[{ on := 2, ground := Go.Ground.data }, { on := 3, ground := Go.Ground.data }, { on := 0, ground := Go.Ground.phase }, { on := 1, ground := Go.Ground.phase }, { on := 2, ground := Go.Ground.phase }, { on := 3, ground := Go.Ground.phase }, { on := 4, ground := Go.Ground.phase }, { on := 5, ground := Go.Ground.phase }, { on := 6, ground := Go.Ground.phase }, { on := 7, ground := Go.Ground.phase }, { on := 8, ground := Go.Ground.phase }, { on := 9, ground := Go.Ground.phase }, { on := 10, ground := Go.Ground.phase }, { on := 11, ground := Go.Ground.phase }, { on := 12, ground := Go.Ground.phase }, { on := 13, ground := Go.Ground.phase }], guard := none }) rfl (by kernel_rfl) (by kernel_rfl) (by kernel_rfl) ?_
        refine wpO_of_run (v := .pointer (some ⟨g, q + i * 22, none⟩)) (w' := V2) ?_ ?_
        · go_simp
        simp only [Act.put, List.setIfInBounds_toArray, List.set_cons_succ, List.set_cons_zero]
        refine wpAnyG_one (i := 15) (o := { dst := none, op := Go.Op.store 41 (Go.Operand.tmp 42) (Go.Operand.tmp 40), type := 0, pos := "rank.go:19", after := #[{ on := 14, ground := Go.Ground.data }, { on := 11, ground := Go.Ground.data }, { on := 13, ground := Go.Ground.chain }, { on := 0, ground := Go.Ground.phase }, { on := 1, ground := Go.Ground.phase }, { on := 2, ground := Go.Ground.phase }, { on := 3, ground := Go.Ground.phase }, { on := 4, ground := Go.Ground.phase }, { on := 5, ground := Go.Ground.phase }, { on := 6, ground := Go.Ground.phase }, { on := 7, ground := Go.Ground.phase }, { on := 8, ground := Go.Ground.phase }, { on := 9, ground := Go.Ground.phase }, { on := 10, ground := Go.Ground.phase }, { on := 11, ground := Go.Ground.phase }, { on := 12, ground := Go.Ground.phase }, { on := 13, ground := Go.Ground.phase }], guard := none }) rfl (by kernel_rfl) (by kernel_rfl) (by kernel_rfl) ?_
        refine wp_store_mid 41 (.tmp 42) (.tmp 40) rfl g (q + i * 22) ox.vals rfl rfl HX9.out.1 (by kernel_rfl) (by kernel_rfl) ?_
        simp only [Act.put]
        refine wpAnyG_done (by kernel_rfl) ?_
        refine NoPanic.normal ?_
        have HU : Hid (RowOn (V2.setCells g (q + i * 22) ox.vals.toList) (.slice (some ⟨g, q, none⟩) n cap) Lz ∧ Touch (fun k => k = g) wr (V2.setCells g (q + i * 22) ox.vals.toList)) := HX9.out.2
        clear HX9
        generalize V2.setCells g (q + i * 22) ox.vals.toList = W9 at *
        generalize Value.agg ox.vals = va2
        generalize Value.agg oy.vals = vb2
        clear a0 a1 i0 i1
        have HQ : Hid (a < n ∧ n = Lz.length ∧ Lf = upO Lz a ∧ RowOn W9 (.slice (some ⟨g, q, none⟩) n cap) Lz ∧ Touch (fun k => v.ownBlock = some k) w W9) := by
          have h2 := HAI.out
          refine ⟨by omega, HUz.out.2, HUz.out.1, HU.out.1, HTq.out.then HU.out.2 fun k hk e => ?_⟩
          rcases HG.out k e with e2 | e2
          · exact e2
          · omega
        go_wp2_with fail
        go_roundw
        case rel => exact ⟨a, Lz, rfl, HQ.out⟩
        case measure => simp only [intOf]; have := HAI.out; omega
end Go.Proofs.YtodpdcflbnomgaaGreat
