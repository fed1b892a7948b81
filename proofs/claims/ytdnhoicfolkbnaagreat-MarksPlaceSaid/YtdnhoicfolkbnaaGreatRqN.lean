/- The document's tree of units (quireref9): Insert. -/
import Derived.Test.YtdnhoicfolkbnaaGreatPart27
import Derived.Test.YtdnhoicfolkbnaaGreatPart29
import Derived.Test.YtdnhoicfolkbnaaGreatPart30
import Derived.Test.YtdnhoicfolkbnaaGreatPart9
import Derived.Deep.CutBlock
namespace Go.Proofs.YtdnhoicfolkbnaaGreat
open Go.RowKit
set_option linter.unusedVariables false
set_option linter.unusedSimpArgs false
set_option maxRecDepth 100000

theorem mnO_cells {W : World} {m : Nat} {x : Mn} (h : W.heap[m]? = some (mnO x)) : W.cell? ⟨m, 6, none⟩ = some (iV x.par) ∧ W.cell? ⟨m, 7, none⟩ = some (.bool x.left) ∧ W.frozen? ⟨m, 6, none⟩ = false ∧ W.frozen? ⟨m, 7, none⟩ = false := ⟨by rw [cell_of_block h]; rfl, by rw [cell_of_block h]; rfl, free_of_block h, free_of_block h⟩
theorem mnO_set7 {W : World} {m : Nat} {x : Mn} (h : W.heap[m]? = some (mnO x)) (c : Bool) : (W.setCell ⟨m, 7, none⟩ (.bool c)).heap[m]? = some (mnO ⟨x.u, x.par, c, x.lv, x.mv⟩) := heap_setCell_same _ _ _ _ h
theorem mnO_set6 {W : World} {m : Nat} {x : Mn} (h : W.heap[m]? = some (mnO x)) (c : Int) : (W.setCell ⟨m, 6, none⟩ (.int .i64 c)).heap[m]? = some (mnO ⟨x.u, c, x.left, x.lv, x.mv⟩) := heap_setCell_same _ _ _ _ h
theorem RS.ups_neg (r : RS) (left : Int) (f : Nat) (y : Int) (h : y < 0) : r.ups left f y = false := by
  cases f with
  | zero => rfl
  | succ f => unfold RS.ups; rw [if_pos h]
theorem RS.ups_succ (r : RS) (left : Int) (f : Nat) (y : Nat) : r.ups left (f + 1) (y : Int) = (((y : Int) == left) || r.ups left f (r.nd y).par) := by
  show (if (y : Int) < 0 then false else _) = _
  rw [if_neg (by omega)]; rfl
theorem mnO_all {W : World} {m : Nat} {x : Mn} (h : W.heap[m]? = some (mnO x)) : W.cell? ⟨m, 0, none⟩ = some (.int .u64 x.u.c) ∧ W.cell? ⟨m, 1, none⟩ = some (.int .u64 x.u.k) ∧ W.cell? ⟨m, 2, none⟩ = some (.int .u64 x.u.lc) ∧ W.cell? ⟨m, 3, none⟩ = some (.int .u64 x.u.lk) ∧ W.cell? ⟨m, 4, none⟩ = some (.int .u64 x.u.rc) ∧ W.cell? ⟨m, 5, none⟩ = some (.int .u64 x.u.rk) ∧ W.cell? ⟨m, 6, none⟩ = some (.int .i64 x.par) ∧ W.cell? ⟨m, 7, none⟩ = some (.bool x.left) ∧ W.cell? ⟨m, 8, none⟩ = some x.lv ∧ W.cell? ⟨m, 9, none⟩ = some x.mv :=
  ⟨by rw [cell_of_block h]; rfl, by rw [cell_of_block h]; rfl, by rw [cell_of_block h]; rfl, by rw [cell_of_block h]; rfl, by rw [cell_of_block h]; rfl, by rw [cell_of_block h]; rfl, by rw [cell_of_block h]; rfl, by rw [cell_of_block h]; rfl, by rw [cell_of_block h]; rfl, by rw [cell_of_block h]; rfl⟩
theorem sliceN_to (vo : Option Addr) (n cap : Nat) (h : n ≤ cap) (W : World) : (Instr.slice 72 (.slice vo n cap) none (some (.int .i64 (n : Int))) (some (.int .i64 (n : Int)))).run Tryz.prog W = .ok (.slice vo n n) W := by
  have h1 : (n : Int) ≤ (cap : Int) := by omega
  have hu := Tryz.underlying72
  have ha : ∀ a : Addr, a.add 0 = a := fun a => by cases a; simp [Addr.add]
  obtain ⟨i0, hi, hz0, hz1, hz2⟩ := info_parts infoN
  simp [Instr.slice, run_underlying hu, Instr.sliceBounds, run_sliceBound, h1, sizeOf, typeInfo, hi, ha]
/-- The append of a node, and its store. -/
theorem RqAt.append {w : World} {b : Nat} {r : RS} (h : RqAt w b r) (hl : r.l.length ≤ 1000000) (x : Un) (p : Int) (c : Bool) :
    ∃ ao cap g' cap' w1, w.cell? ⟨b, 0, none⟩ = some (.slice ao r.l.length cap) ∧ r.l.length ≤ cap ∧ (Builtin.append_ #[72, 72] 72 #[.slice ao r.l.length r.l.length, .slice (some ⟨w.heap.size, 0, none⟩) 1 1]).run Tryz.prog (w.alloc (mnO ⟨x, p, c, .slice none 0 0, .slice none 0 0⟩)) = .ok (.slice (some ⟨g', 0, none⟩) (r.l.length + 1) cap') w1 ∧
      Touch (fun _ => False) w w1 ∧ RqAt (w1.setCell ⟨b, 0, none⟩ (.slice (some ⟨g', 0, none⟩) (r.l.length + 1) cap')) b ⟨r.l ++ [⟨x, p, c, [], []⟩], r.more, r.order⟩ ∧ w.heap.size ≤ g' := by
  obtain ⟨v, M, l1, l2, l3, l4⟩ := h.l
  have hv : ∃ ao cap, v = .slice ao r.l.length cap ∧ r.l.length ≤ cap := by
    rcases l2.2 with ⟨e, h0⟩ | ⟨g, cap, cur, e, _, _, q1, _⟩
    · exact ⟨none, 0, by rw [e, h0], by omega⟩
    · exact ⟨_, cap, e, q1⟩
  obtain ⟨ao, cap, rfl, hcap⟩ := hv
  rw [← l3] at l2 l1 hcap ⊢
  obtain ⟨g', cap', w1, hr, hown, hg, t⟩ := append_nd l2 ⟨x, p, c, .slice none 0 0, .slice none 0 0⟩ rfl rfl (by omega)
  refine ⟨ao, cap, g', cap', w1, l1, hcap, hr, t, ?_, hg⟩
  refine (h.keep t).setL _ _ (M ++ [⟨x, p, c, .slice none 0 0, .slice none 0 0⟩]) ?_ ?_ ?_
  · rw [List.length_append, ← l3]; exact hown
  · simp [l3]
  · intro i h1 h2
    by_cases hi : i < M.length
    · rw [List.getElem_append_left hi, List.getElem_append_left (by omega)]
      exact (l4 i hi (by omega)).keep t
    · have e : i = M.length := by simp at h1; omega
      have e1 : (M ++ [(⟨x, p, c, .slice none 0 0, .slice none 0 0⟩ : Mn)])[i] = ⟨x, p, c, .slice none 0 0, .slice none 0 0⟩ := by
        rw [List.getElem_append_right (by omega)]; simp
      have e2 : (r.l ++ [(⟨x, p, c, [], []⟩ : Nd)])[i] = ⟨x, p, c, [], []⟩ := by
        rw [List.getElem_append_right (by omega)]; simp
      rw [e1, e2]
      exact ⟨rfl, rfl, rfl, SlJ.nil _, SlJ.nil _⟩
theorem RS.kids_len (r : RS) {x : Nat} : ∀ (f : Nat) (l : List Nat), r.Deep f l → x ∈ r.walk f l → (r.nd x).lefts.length ≤ (r.walk f l).length ∧ (r.nd x).more.length ≤ (r.walk f l).length
  | 0, l, h, hx => by simp [RS.walk] at hx
  | f + 1, [], h, hx => by simp [RS.walk] at hx
  | f + 1, y :: l, h, hx => by
    obtain ⟨_, h1, h2⟩ := h y (by simp)
    have a1 := RS.walk_ge r f _ h1
    have a2 := RS.walk_ge r f _ h2
    rw [RS.walk_cons] at hx ⊢
    simp only [List.length_append, List.length_cons, List.mem_append, List.mem_cons] at hx ⊢
    rcases hx with (hx | hx | hx) | hx
    · have := RS.kids_len r f _ h1 hx
      omega
    · subst hx; omega
    · have := RS.kids_len r f _ h2 hx
      omega
    · have := RS.kids_len r (f + 1) l (fun z hz => h z (List.mem_cons_of_mem _ hz)) hx
      omega
  termination_by f l => (f, l.length)
theorem RS.deep_same {a b : RS} (h : a.l = b.l) : ∀ (f : Nat) (l : List Nat), a.Deep f l → b.Deep f l
  | 0, l, hd => hd
  | f + 1, l, hd => fun x hx => by
    have e : a.nd x = b.nd x := by unfold RS.nd; rw [h]
    obtain ⟨h0, h1, h2⟩ := hd x hx
    rw [e] at h1 h2
    rw [← h]
    exact ⟨h0, RS.deep_same h f _ h1, RS.deep_same h f _ h2⟩
theorem leftsL_le (s : RS) (l : List Nat) (c k : Int) : s.leftsL l c k ≤ l.length := take_while_le _ _
theorem leftsL_lt (s : RS) (l : List Nat) (c k : Int) (j : Nat) (hj : j < l.length) (h : j < s.leftsL l c k) : lessI (s.nd l[j]).u.c (s.nd l[j]).u.k c k = true := take_while_lt _ l j hj h
theorem leftsL_at (s : RS) (l : List Nat) (c k : Int) (hj : s.leftsL l c k < l.length) : lessI (s.nd l[s.leftsL l c k]).u.c (s.nd l[s.leftsL l c k]).u.k c k = false := take_while_at (fun x => lessI (s.nd x).u.c (s.nd x).u.k c k) l hj
theorem RqAt.freeN {w : World} {b : Nat} {r : RS} (h : RqAt w b r) {g n cap : Nat} (hn : 0 < n) (hcell : w.cell? ⟨b, 0, none⟩ = some (.slice (some ⟨g, 0, none⟩) n cap)) (k : Nat) : w.frozen? ⟨g, k, none⟩ = false := by
  obtain ⟨vl, M, l1, l2, l3, l4⟩ := h.l
  rw [hcell] at l1
  obtain rfl := Option.some.inj l1
  rcases l2.2 with ⟨e, h0⟩ | ⟨g', cap', cur, e, q0, hg, q1, q2, q3, q4⟩
  · cases e
  · simp only [Value.slice.injEq, Option.some.injEq, Addr.mk.injEq] at e
    obtain ⟨⟨rfl, -, -⟩, -, -⟩ := e
    exact free_of_block hg
theorem may_eq (a1 a2 : Bool) (f0 fl fr pl pr lc lk rc rk : Int) : (a1 && a2 && decide (f0 < 0) && decide ((lc = 0 ∧ lk = 0) ∨ 0 ≤ fl) && decide ((rc = 0 ∧ rk = 0) ∨ 0 ≤ fr) && !(decide (0 ≤ fl) && decide (0 ≤ fr) && decide (pr ≤ pl))) =
    ((a1 && a2) && decide (f0 < 0) && !decide ((¬ (lc = 0 ∧ lk = 0) ∧ fl < 0) ∨ (¬ (rc = 0 ∧ rk = 0) ∧ fr < 0) ∨ (0 ≤ fl ∧ 0 ≤ fr ∧ pr ≤ pl))) := by
  cases a1
  · rfl
  cases a2
  · rfl
  rw [Bool.eq_iff_iff]
  simp only [Bool.true_and, Bool.and_eq_true, Bool.not_eq_true', Bool.and_eq_false_iff, decide_eq_true_eq, decide_eq_false_iff_not]
  omega
set_option maxHeartbeats 16000000 in
theorem qinsert_any {w : World} {b : Nat} {r : RS} (h : RqAt w b r) (hI : RInv r) (u : Un) (hl : r.l.length ≤ 1000000) :
    Calls Tryz.prog 34 #[qP b, .agg #[u64 (u).c, u64 (u).k, u64 (u).lc, u64 (u).lk, u64 (u).rc, u64 (u).rk]] w fun e w' => e = .returned (.bool (r.may u)) ∧ RqAt w' b (r.insert u) ∧ Touch (fun x => x = b) w w' := by
  have hol : r.order.length ≤ 1000000 := by rw [hI.len]; exact hl
  obtain ⟨E, hE⟩ : ∃ E, Hid (E = (w.alloc (unO u)).alloc (idO 0 0)) := ⟨_, Eq.refl _⟩
  have HTE : Hid (Touch (fun _ => False) w E) := by rw [hE.out]; exact ((Touch.refl _ _).alloc _).alloc _
  have HEB : Hid (E.heap[w.heap.size]? = some (unO u) ∧ E.heap[w.heap.size + 1]? = some (idO 0 0)) := by
    rw [hE.out]
    refine ⟨?_, ?_⟩
    · rw [Below.heap_alloc _ _ _ (by simp)]; exact heap_alloc_new _ _
    · have := heap_alloc_new (w.alloc (unO u)) (idO 0 0)
      simpa using this
  have HC : Hid (∀ W, Touch (fun _ => False) E W → (W.cell? ⟨w.heap.size, 0, none⟩ = some (u64 u.c) ∧ W.cell? ⟨w.heap.size, 1, none⟩ = some (u64 u.k) ∧ W.cell? ⟨w.heap.size, 2, none⟩ = some (u64 u.lc) ∧ W.cell? ⟨w.heap.size, 3, none⟩ = some (u64 u.lk) ∧ W.cell? ⟨w.heap.size, 4, none⟩ = some (u64 u.rc) ∧ W.cell? ⟨w.heap.size, 5, none⟩ = some (u64 u.rk)) ∧ W.cell? ⟨w.heap.size + 1, 0, none⟩ = some (u64 0) ∧ W.cell? ⟨w.heap.size + 1, 1, none⟩ = some (u64 0)) := fun W t => ⟨unO_cells (heap_keep t HEB.out.1), idO_cells (heap_keep t HEB.out.2)⟩
  have HR : Hid (∀ W, Calls Tryz.prog 59 #[.agg #[u64 u.c, u64 u.k]] W fun e w' => e = .returned (.bool (numOk u.c && numOk u.k)) ∧ Touch (fun _ => False) W w') := fun W => (rRight_any u.c u.k W).mono (by rintro e w2 ⟨rfl, rfl⟩; exact ⟨rfl, (Touch.refl _ _).alloc _⟩)
  have HF0 : Hid (∀ W, Touch (fun _ => False) E W → Calls Tryz.prog 60 #[qP b, .agg #[u64 u.c, u64 u.k]] W fun e w' => e = .returned (iV (r.find u.c u.k)) ∧ Touch (fun _ => False) W w') := fun W t => qfind_any (h.keep (HTE.out.trans t)) _ _ (by omega)
  have HFl : Hid (∀ W, Touch (fun _ => False) E W → Calls Tryz.prog 60 #[qP b, .agg #[u64 u.lc, u64 u.lk]] W fun e w' => e = .returned (iV (r.find u.lc u.lk)) ∧ Touch (fun _ => False) W w') := fun W t => qfind_any (h.keep (HTE.out.trans t)) _ _ (by omega)
  have HFr : Hid (∀ W, Touch (fun _ => False) E W → Calls Tryz.prog 60 #[qP b, .agg #[u64 u.rc, u64 u.rk]] W fun e w' => e = .returned (iV (r.find u.rc u.rk)) ∧ Touch (fun _ => False) W w') := fun W t => qfind_any (h.keep (HTE.out.trans t)) _ _ (by omega)
  have HPl : Hid (∀ W, Touch (fun _ => False) E W → Calls Tryz.prog 61 #[qP b, iV (r.find u.lc u.lk)] W fun e w' => e = .returned (iV (r.place (r.find u.lc u.lk))) ∧ w' = W) := fun W t => qplace_any (h.keep (HTE.out.trans t)) _ (by omega)
  have HPr : Hid (∀ W, Touch (fun _ => False) E W → Calls Tryz.prog 61 #[qP b, iV (r.find u.rc u.rk)] W fun e w' => e = .returned (iV (r.place (r.find u.rc u.rk))) ∧ w' = W) := fun W t => qplace_any (h.keep (HTE.out.trans t)) _ (by omega)
  have HNo : Hid (r.may u = false → ∀ W, Touch (fun _ => False) w W → RqAt W b (r.insert u) ∧ Touch (fun x => x = b) w W) := fun hm W t => by
    unfold RS.insert
    rw [hm]
    exact ⟨h.keep t, t.mono fun _ _ e => e.elim⟩
  have HMay : Hid (r.may u = ((numOk u.c && numOk u.k) && decide (r.find u.c u.k < 0) && !decide ((¬ (u.lc = 0 ∧ u.lk = 0) ∧ r.find u.lc u.lk < 0) ∨ (¬ (u.rc = 0 ∧ u.rk = 0) ∧ r.find u.rc u.rk < 0) ∨ (0 ≤ r.find u.lc u.lk ∧ 0 ≤ r.find u.rc u.rk ∧ r.place (r.find u.rc u.rk) ≤ r.place (r.find u.lc u.lk))))) := may_eq _ _ _ _ _ _ _ _ _ _ _
  generalize (numOk u.c && numOk u.k) = a1 at *
  obtain ⟨mayB, hmayB⟩ : ∃ m, Hid (m = r.may u) := ⟨_, Eq.refl _⟩
  rw [← hmayB.out] at HMay HNo ⊢
  generalize r.find u.c u.k = f0 at *
  obtain ⟨n, hn⟩ : ∃ m, Hid (m = w.heap.size) := ⟨_, Eq.refl _⟩
  rw [← hn.out] at HC
  obtain ⟨uc, uk, ulc, ulk, urc, urk⟩ := u
  simp only at HC HR HF0 HFl HFr HPl HPr HMay HNo ⊢
  have HUnE : Hid (∀ W, Touch (fun _ => False) E W → W.heap[n]? = some (unO ⟨uc, uk, ulc, ulk, urc, urk⟩)) := fun W t => by
    rw [hn.out]; exact heap_keep t HEB.out.1
  have HN1 : Hid (n + 1 ≤ E.heap.size) := by
    have : (E.heap.size : Nat) = w.heap.size + 1 + 1 := by rw [hE.out]; simp
    have := hn.out
    show n + 1 ≤ E.heap.size
    omega
  go_enter Tryz.func34, Tryz.ntmps34
  go_upto_region 2 with fail
  rw [← hE.out]
  have esz : (w.alloc (unO ⟨uc, uk, ulc, ulk, urc, urk⟩)).heap.size = n + 1 := by rw [hn.out]; simp
  try rw [esz]
  rw [← hn.out]
  clear hE HEB esz
  obtain ⟨⟨c0, c1, -, -, -, -⟩, -, -⟩ := HC.out _ (Touch.refl _ E)
  cases a1 with
  | false =>
    have HX : Hid (mayB = false) := HMay.out
    clear HMay HF0 HFl HFr HPl HPr
    go_wp2_with fail
    refine (HR.out _).mono ?_
    rintro e W1 ⟨rfl, t1⟩
    have HT1 : Hid (Touch (fun _ => False) E W1) := t1
    clear t1 HR
    go_wp2_with fail
    go_ret
    exact ⟨congrArg (fun x => Ending.returned (.bool x)) HX.out.symm, HNo.out HX.out _ (HTE.out.trans HT1.out)⟩
  | true =>
  by_cases hf0 : f0 < 0
  rotate_left
  · have HX : Hid (mayB = false) := by
      show mayB = false
      rw [HMay.out]; simp [hf0]
    have g0 : 0 ≤ f0 := by omega
    clear HMay HFl HFr HPl HPr hf0
    go_wp2_with fail
    refine (HR.out _).mono ?_
    rintro e W1 ⟨rfl, t1⟩
    have HT1 : Hid (Touch (fun _ => False) E W1) := t1
    clear t1 HR c0 c1
    obtain ⟨⟨c0, c1, -, -, -, -⟩, -, -⟩ := HC.out _ HT1.out
    go_wp2_with fail
    refine (HF0.out _ HT1.out).mono ?_
    rintro e W2 ⟨rfl, t2⟩
    have HT2 : Hid (Touch (fun _ => False) E W2) := HT1.out.trans t2
    clear t2 HF0
    go_wp2_with fail
    go_ret
    exact ⟨congrArg (fun x => Ending.returned (.bool x)) HX.out.symm, HNo.out HX.out _ (HTE.out.trans HT2.out)⟩
  have g0 : ¬ 0 ≤ f0 := by omega
  have HMay2 : Hid (mayB = !decide ((¬ (ulc = 0 ∧ ulk = 0) ∧ r.find ulc ulk < 0) ∨ (¬ (urc = 0 ∧ urk = 0) ∧ r.find urc urk < 0) ∨ (0 ≤ r.find ulc ulk ∧ 0 ≤ r.find urc urk ∧ r.place (r.find urc urk) ≤ r.place (r.find ulc ulk)))) := by
    show mayB = _
    rw [HMay.out]; simp only [decide_eq_true hf0, Bool.true_and]
  clear HMay hf0
  go_wp2_with fail
  refine (HR.out _).mono ?_
  rintro e W1 ⟨rfl, t1⟩
  have HT1 : Hid (Touch (fun _ => False) E W1) := t1
  clear t1 HR c0 c1
  obtain ⟨⟨c0, c1, -, -, -, -⟩, -, -⟩ := HC.out _ HT1.out
  go_wp2_with fail
  refine (HF0.out _ HT1.out).mono ?_
  rintro e W2 ⟨rfl, t2⟩
  have HT2 : Hid (Touch (fun _ => False) E W2) := HT1.out.trans t2
  clear t2 HF0 HT1 c0 c1
  go_upto_region 4 with fail
  clear g0
  have S0 := HC.out _ HT2.out.drew
  have HFl2 : Hid (∀ W, Touch (fun _ => False) E W → Calls Tryz.prog 60 #[qP b, .agg #[u64 ulc, u64 ulk]] W fun e w' => e = .returned (iV (r.find ulc ulk)) ∧ Touch (fun _ => False) W w') := HFl.out
  go_cut [6, 7] (fun t s wx => t = iV (r.find ulc ulk) ∧ s = iV (r.find urc urk) ∧ Hid (Touch (fun _ => False) E wx))
  case first =>
    clear HPl HPr HNo HMay2 HFl hmayB
    generalize r.find ulc ulk = fl at *
    generalize r.find urc urk = fr at *
    go_region_held3 (fun W => (W.cell? ⟨n, 0, none⟩ = some (u64 uc) ∧ W.cell? ⟨n, 1, none⟩ = some (u64 uk) ∧ W.cell? ⟨n, 2, none⟩ = some (u64 ulc) ∧ W.cell? ⟨n, 3, none⟩ = some (u64 ulk) ∧ W.cell? ⟨n, 4, none⟩ = some (u64 urc) ∧ W.cell? ⟨n, 5, none⟩ = some (u64 urk)) ∧ W.cell? ⟨n + 1, 0, none⟩ = some (u64 0) ∧ W.cell? ⟨n + 1, 1, none⟩ = some (u64 0)) (first | assumption)
      (first
        | (go_at_call 60; (with_reducible refine (HFl2.out _ HT2.out.drew).mono ?_); rintro e w1 ⟨rfl, t1⟩; have HT3 : Hid (Touch (fun _ => False) E w1) := HT2.out.drew.trans t1; have S1 := HC.out w1 HT3.out; clear t1 HFl2)
        | (go_at_call 60; (with_reducible refine (HFr.out _ HT3.out).mono ?_); rintro e w2 ⟨rfl, t2⟩; have HT4 : Hid (Touch (fun _ => False) E w2) := HT3.out.trans t2; have S2 := HC.out w2 HT4.out; clear t2))
    all_goals (try go_wp2_with fail)
    all_goals go_meet
    all_goals (case rel => exact ⟨rfl, rfl, HT4.out⟩)
  case rest =>
    obtain ⟨rfl, rfl, HT⟩ := hcut
    obtain ⟨W4, hwf⟩ : ∃ we, we = wc := ⟨_, rfl⟩
    subst hwf
    clear S0 HFl HFl2 HFr HT2
    have HPl2 : Hid (∀ W, Touch (fun _ => False) E W → Calls Tryz.prog 61 #[qP b, iV (r.find ulc ulk)] W fun e w' => e = .returned (iV (r.place (r.find ulc ulk))) ∧ w' = W) := HPl.out
    clear HPl
    obtain ⟨bad, hbad⟩ : ∃ x : Bool, Hid (x = decide ((¬ (ulc = 0 ∧ ulk = 0) ∧ r.find ulc ulk < 0) ∨ (¬ (urc = 0 ∧ urk = 0) ∧ r.find urc urk < 0) ∨ (0 ≤ r.find ulc ulk ∧ 0 ≤ r.find urc urk ∧ r.place (r.find urc urk) ≤ r.place (r.find ulc ulk)))) := ⟨_, Eq.refl _⟩
    rw [← hbad.out] at HMay2
    go_upto_region 5 with fail
    go_cut [67] (fun t wx => t = .bool bad ∧ wx = W4)
    case first =>
      obtain ⟨⟨-, -, c2, c3, c4, c5⟩, z0, z1⟩ := HC.out _ HT.out
      clear HNo HMay2 hmayB HC h hI hl hol HTE
      generalize r.place (r.find ulc ulk) = pl at *
      generalize r.place (r.find urc urk) = pr at *
      generalize r.find ulc ulk = fl at *
      generalize r.find urc urk = fr at *
      have HB1 : Hid (bad = true ↔ ((¬ (ulc = 0 ∧ ulk = 0) ∧ fl < 0) ∨ (¬ (urc = 0 ∧ urk = 0) ∧ fr < 0) ∨ (0 ≤ fl ∧ 0 ≤ fr ∧ pr ≤ pl))) := by rw [hbad.out]; exact decide_eq_true_iff
      clear hbad
      by_cases ql1 : ulc = 0
      · have el1 : (ulc == 0) = true := by simp [ql1]
        by_cases ql2 : ulk = 0
        · have el2 : (ulk == 0) = true := by simp [ql2]
          by_cases nfl : fl < 0
          · have gfl : ¬ 0 ≤ fl := by omega
            as_aux_lemma =>
              by_cases qr1 : urc = 0
              · have er1 : (urc == 0) = true := by simp [qr1]
                by_cases qr2 : urk = 0
                · have er2 : (urk == 0) = true := by simp [qr2]
                  by_cases nfr : fr < 0
                  · have gfr : ¬ 0 ≤ fr := by omega
                    have HBd : Hid (bad = false) := Bool.eq_false_iff.2 fun h => by have := HB1.out.1 h; omega
                    clear HB1
                    try clear ql1
                    try clear ql2
                    try clear qr1
                    try clear qr2
                    go_wp2_with fail
                    go_meet
                    case rel => exact ⟨congrArg Value.bool HBd.out.symm, rfl⟩
                  · have gfr : 0 ≤ fr := by omega
                    have HBd : Hid (bad = false) := Bool.eq_false_iff.2 fun h => by have := HB1.out.1 h; omega
                    clear HB1
                    try clear ql1
                    try clear ql2
                    try clear qr1
                    try clear qr2
                    go_wp2_with fail
                    go_meet
                    case rel => exact ⟨congrArg Value.bool HBd.out.symm, rfl⟩
                · have er2 : (urk == 0) = false := by simp [qr2]
                  by_cases nfr : fr < 0
                  · have gfr : ¬ 0 ≤ fr := by omega
                    have HBd : Hid (bad = true) := HB1.out.2 (by omega)
                    clear HB1
                    try clear ql1
                    try clear ql2
                    try clear qr1
                    try clear qr2
                    go_wp2_with fail
                    go_meet
                    case rel => exact ⟨congrArg Value.bool HBd.out.symm, rfl⟩
                  · have gfr : 0 ≤ fr := by omega
                    have HBd : Hid (bad = false) := Bool.eq_false_iff.2 fun h => by have := HB1.out.1 h; omega
                    clear HB1
                    try clear ql1
                    try clear ql2
                    try clear qr1
                    try clear qr2
                    go_wp2_with fail
                    go_meet
                    case rel => exact ⟨congrArg Value.bool HBd.out.symm, rfl⟩
              · have er1 : (urc == 0) = false := by simp [qr1]
                by_cases nfr : fr < 0
                · have gfr : ¬ 0 ≤ fr := by omega
                  have HBd : Hid (bad = true) := HB1.out.2 (by omega)
                  clear HB1
                  try clear ql1
                  try clear ql2
                  try clear qr1
                  try clear qr2
                  go_wp2_with fail
                  go_meet
                  case rel => exact ⟨congrArg Value.bool HBd.out.symm, rfl⟩
                · have gfr : 0 ≤ fr := by omega
                  have HBd : Hid (bad = false) := Bool.eq_false_iff.2 fun h => by have := HB1.out.1 h; omega
                  clear HB1
                  try clear ql1
                  try clear ql2
                  try clear qr1
                  try clear qr2
                  go_wp2_with fail
                  go_meet
                  case rel => exact ⟨congrArg Value.bool HBd.out.symm, rfl⟩
          · have gfl : 0 ≤ fl := by omega
            as_aux_lemma =>
              by_cases qr1 : urc = 0
              · have er1 : (urc == 0) = true := by simp [qr1]
                by_cases qr2 : urk = 0
                · have er2 : (urk == 0) = true := by simp [qr2]
                  by_cases nfr : fr < 0
                  · have gfr : ¬ 0 ≤ fr := by omega
                    have HBd : Hid (bad = false) := Bool.eq_false_iff.2 fun h => by have := HB1.out.1 h; omega
                    clear HB1
                    try clear ql1
                    try clear ql2
                    try clear qr1
                    try clear qr2
                    go_wp2_with fail
                    go_meet
                    case rel => exact ⟨congrArg Value.bool HBd.out.symm, rfl⟩
                  · have gfr : 0 ≤ fr := by omega
                    have HBd : Hid (bad = decide (pr ≤ pl)) := Bool.eq_iff_iff.2 ⟨fun h => decide_eq_true (by have := HB1.out.1 h; omega), fun h => HB1.out.2 (by have := of_decide_eq_true h; omega)⟩
                    clear HB1
                    try clear ql1
                    try clear ql2
                    try clear qr1
                    try clear qr2
                    go_wp2_with fail
                    refine (HPr.out _ HT.out).mono ?_
                    rintro e w5 ⟨rfl, hw5⟩
                    rw [hw5]
                    clear hw5
                    go_wp2_with fail
                    refine (HPl2.out _ HT.out).mono ?_
                    rintro e w5 ⟨rfl, hw5⟩
                    rw [hw5]
                    clear hw5
                    go_wp2_with fail
                    go_meet
                    case rel => exact ⟨congrArg Value.bool HBd.out.symm, rfl⟩
                · have er2 : (urk == 0) = false := by simp [qr2]
                  by_cases nfr : fr < 0
                  · have gfr : ¬ 0 ≤ fr := by omega
                    have HBd : Hid (bad = true) := HB1.out.2 (by omega)
                    clear HB1
                    try clear ql1
                    try clear ql2
                    try clear qr1
                    try clear qr2
                    go_wp2_with fail
                    go_meet
                    case rel => exact ⟨congrArg Value.bool HBd.out.symm, rfl⟩
                  · have gfr : 0 ≤ fr := by omega
                    have HBd : Hid (bad = decide (pr ≤ pl)) := Bool.eq_iff_iff.2 ⟨fun h => decide_eq_true (by have := HB1.out.1 h; omega), fun h => HB1.out.2 (by have := of_decide_eq_true h; omega)⟩
                    clear HB1
                    try clear ql1
                    try clear ql2
                    try clear qr1
                    try clear qr2
                    go_wp2_with fail
                    refine (HPr.out _ HT.out).mono ?_
                    rintro e w5 ⟨rfl, hw5⟩
                    rw [hw5]
                    clear hw5
                    go_wp2_with fail
                    refine (HPl2.out _ HT.out).mono ?_
                    rintro e w5 ⟨rfl, hw5⟩
                    rw [hw5]
                    clear hw5
                    go_wp2_with fail
                    go_meet
                    case rel => exact ⟨congrArg Value.bool HBd.out.symm, rfl⟩
              · have er1 : (urc == 0) = false := by simp [qr1]
                by_cases nfr : fr < 0
                · have gfr : ¬ 0 ≤ fr := by omega
                  have HBd : Hid (bad = true) := HB1.out.2 (by omega)
                  clear HB1
                  try clear ql1
                  try clear ql2
                  try clear qr1
                  try clear qr2
                  go_wp2_with fail
                  go_meet
                  case rel => exact ⟨congrArg Value.bool HBd.out.symm, rfl⟩
                · have gfr : 0 ≤ fr := by omega
                  have HBd : Hid (bad = decide (pr ≤ pl)) := Bool.eq_iff_iff.2 ⟨fun h => decide_eq_true (by have := HB1.out.1 h; omega), fun h => HB1.out.2 (by have := of_decide_eq_true h; omega)⟩
                  clear HB1
                  try clear ql1
                  try clear ql2
                  try clear qr1
                  try clear qr2
                  go_wp2_with fail
                  refine (HPr.out _ HT.out).mono ?_
                  rintro e w5 ⟨rfl, hw5⟩
                  rw [hw5]
                  clear hw5
                  go_wp2_with fail
                  refine (HPl2.out _ HT.out).mono ?_
                  rintro e w5 ⟨rfl, hw5⟩
                  rw [hw5]
                  clear hw5
                  go_wp2_with fail
                  go_meet
                  case rel => exact ⟨congrArg Value.bool HBd.out.symm, rfl⟩
        · have el2 : (ulk == 0) = false := by simp [ql2]
          by_cases nfl : fl < 0
          · have gfl : ¬ 0 ≤ fl := by omega
            have HBd : Hid (bad = true) := HB1.out.2 (by omega)
            clear HB1
            try clear ql1
            try clear ql2
            try clear qr1
            try clear qr2
            go_wp2_with fail
            go_meet
            case rel => exact ⟨congrArg Value.bool HBd.out.symm, rfl⟩
          · have gfl : 0 ≤ fl := by omega
            as_aux_lemma =>
              by_cases qr1 : urc = 0
              · have er1 : (urc == 0) = true := by simp [qr1]
                by_cases qr2 : urk = 0
                · have er2 : (urk == 0) = true := by simp [qr2]
                  by_cases nfr : fr < 0
                  · have gfr : ¬ 0 ≤ fr := by omega
                    have HBd : Hid (bad = false) := Bool.eq_false_iff.2 fun h => by have := HB1.out.1 h; omega
                    clear HB1
                    try clear ql1
                    try clear ql2
                    try clear qr1
                    try clear qr2
                    go_wp2_with fail
                    go_meet
                    case rel => exact ⟨congrArg Value.bool HBd.out.symm, rfl⟩
                  · have gfr : 0 ≤ fr := by omega
                    have HBd : Hid (bad = decide (pr ≤ pl)) := Bool.eq_iff_iff.2 ⟨fun h => decide_eq_true (by have := HB1.out.1 h; omega), fun h => HB1.out.2 (by have := of_decide_eq_true h; omega)⟩
                    clear HB1
                    try clear ql1
                    try clear ql2
                    try clear qr1
                    try clear qr2
                    go_wp2_with fail
                    refine (HPr.out _ HT.out).mono ?_
                    rintro e w5 ⟨rfl, hw5⟩
                    rw [hw5]
                    clear hw5
                    go_wp2_with fail
                    refine (HPl2.out _ HT.out).mono ?_
                    rintro e w5 ⟨rfl, hw5⟩
                    rw [hw5]
                    clear hw5
                    go_wp2_with fail
                    go_meet
                    case rel => exact ⟨congrArg Value.bool HBd.out.symm, rfl⟩
                · have er2 : (urk == 0) = false := by simp [qr2]
                  by_cases nfr : fr < 0
                  · have gfr : ¬ 0 ≤ fr := by omega
                    have HBd : Hid (bad = true) := HB1.out.2 (by omega)
                    clear HB1
                    try clear ql1
                    try clear ql2
                    try clear qr1
                    try clear qr2
                    go_wp2_with fail
                    go_meet
                    case rel => exact ⟨congrArg Value.bool HBd.out.symm, rfl⟩
                  · have gfr : 0 ≤ fr := by omega
                    have HBd : Hid (bad = decide (pr ≤ pl)) := Bool.eq_iff_iff.2 ⟨fun h => decide_eq_true (by have := HB1.out.1 h; omega), fun h => HB1.out.2 (by have := of_decide_eq_true h; omega)⟩
                    clear HB1
                    try clear ql1
                    try clear ql2
                    try clear qr1
                    try clear qr2
                    go_wp2_with fail
                    refine (HPr.out _ HT.out).mono ?_
                    rintro e w5 ⟨rfl, hw5⟩
                    rw [hw5]
                    clear hw5
                    go_wp2_with fail
                    refine (HPl2.out _ HT.out).mono ?_
                    rintro e w5 ⟨rfl, hw5⟩
                    rw [hw5]
                    clear hw5
                    go_wp2_with fail
                    go_meet
                    case rel => exact ⟨congrArg Value.bool HBd.out.symm, rfl⟩
              · have er1 : (urc == 0) = false := by simp [qr1]
                by_cases nfr : fr < 0
                · have gfr : ¬ 0 ≤ fr := by omega
                  have HBd : Hid (bad = true) := HB1.out.2 (by omega)
                  clear HB1
                  try clear ql1
                  try clear ql2
                  try clear qr1
                  try clear qr2
                  go_wp2_with fail
                  go_meet
                  case rel => exact ⟨congrArg Value.bool HBd.out.symm, rfl⟩
                · have gfr : 0 ≤ fr := by omega
                  have HBd : Hid (bad = decide (pr ≤ pl)) := Bool.eq_iff_iff.2 ⟨fun h => decide_eq_true (by have := HB1.out.1 h; omega), fun h => HB1.out.2 (by have := of_decide_eq_true h; omega)⟩
                  clear HB1
                  try clear ql1
                  try clear ql2
                  try clear qr1
                  try clear qr2
                  go_wp2_with fail
                  refine (HPr.out _ HT.out).mono ?_
                  rintro e w5 ⟨rfl, hw5⟩
                  rw [hw5]
                  clear hw5
                  go_wp2_with fail
                  refine (HPl2.out _ HT.out).mono ?_
                  rintro e w5 ⟨rfl, hw5⟩
                  rw [hw5]
                  clear hw5
                  go_wp2_with fail
                  go_meet
                  case rel => exact ⟨congrArg Value.bool HBd.out.symm, rfl⟩
      · have el1 : (ulc == 0) = false := by simp [ql1]
        by_cases nfl : fl < 0
        · have gfl : ¬ 0 ≤ fl := by omega
          have HBd : Hid (bad = true) := HB1.out.2 (by omega)
          clear HB1
          try clear ql1
          try clear ql2
          try clear qr1
          try clear qr2
          go_wp2_with fail
          go_meet
          case rel => exact ⟨congrArg Value.bool HBd.out.symm, rfl⟩
        · have gfl : 0 ≤ fl := by omega
          as_aux_lemma =>
            by_cases qr1 : urc = 0
            · have er1 : (urc == 0) = true := by simp [qr1]
              by_cases qr2 : urk = 0
              · have er2 : (urk == 0) = true := by simp [qr2]
                by_cases nfr : fr < 0
                · have gfr : ¬ 0 ≤ fr := by omega
                  have HBd : Hid (bad = false) := Bool.eq_false_iff.2 fun h => by have := HB1.out.1 h; omega
                  clear HB1
                  try clear ql1
                  try clear ql2
                  try clear qr1
                  try clear qr2
                  go_wp2_with fail
                  go_meet
                  case rel => exact ⟨congrArg Value.bool HBd.out.symm, rfl⟩
                · have gfr : 0 ≤ fr := by omega
                  have HBd : Hid (bad = decide (pr ≤ pl)) := Bool.eq_iff_iff.2 ⟨fun h => decide_eq_true (by have := HB1.out.1 h; omega), fun h => HB1.out.2 (by have := of_decide_eq_true h; omega)⟩
                  clear HB1
                  try clear ql1
                  try clear ql2
                  try clear qr1
                  try clear qr2
                  go_wp2_with fail
                  refine (HPr.out _ HT.out).mono ?_
                  rintro e w5 ⟨rfl, hw5⟩
                  rw [hw5]
                  clear hw5
                  go_wp2_with fail
                  refine (HPl2.out _ HT.out).mono ?_
                  rintro e w5 ⟨rfl, hw5⟩
                  rw [hw5]
                  clear hw5
                  go_wp2_with fail
                  go_meet
                  case rel => exact ⟨congrArg Value.bool HBd.out.symm, rfl⟩
              · have er2 : (urk == 0) = false := by simp [qr2]
                by_cases nfr : fr < 0
                · have gfr : ¬ 0 ≤ fr := by omega
                  have HBd : Hid (bad = true) := HB1.out.2 (by omega)
                  clear HB1
                  try clear ql1
                  try clear ql2
                  try clear qr1
                  try clear qr2
                  go_wp2_with fail
                  go_meet
                  case rel => exact ⟨congrArg Value.bool HBd.out.symm, rfl⟩
                · have gfr : 0 ≤ fr := by omega
                  have HBd : Hid (bad = decide (pr ≤ pl)) := Bool.eq_iff_iff.2 ⟨fun h => decide_eq_true (by have := HB1.out.1 h; omega), fun h => HB1.out.2 (by have := of_decide_eq_true h; omega)⟩
                  clear HB1
                  try clear ql1
                  try clear ql2
                  try clear qr1
                  try clear qr2
                  go_wp2_with fail
                  refine (HPr.out _ HT.out).mono ?_
                  rintro e w5 ⟨rfl, hw5⟩
                  rw [hw5]
                  clear hw5
                  go_wp2_with fail
                  refine (HPl2.out _ HT.out).mono ?_
                  rintro e w5 ⟨rfl, hw5⟩
                  rw [hw5]
                  clear hw5
                  go_wp2_with fail
                  go_meet
                  case rel => exact ⟨congrArg Value.bool HBd.out.symm, rfl⟩
            · have er1 : (urc == 0) = false := by simp [qr1]
              by_cases nfr : fr < 0
              · have gfr : ¬ 0 ≤ fr := by omega
                have HBd : Hid (bad = true) := HB1.out.2 (by omega)
                clear HB1
                try clear ql1
                try clear ql2
                try clear qr1
                try clear qr2
                go_wp2_with fail
                go_meet
                case rel => exact ⟨congrArg Value.bool HBd.out.symm, rfl⟩
              · have gfr : 0 ≤ fr := by omega
                have HBd : Hid (bad = decide (pr ≤ pl)) := Bool.eq_iff_iff.2 ⟨fun h => decide_eq_true (by have := HB1.out.1 h; omega), fun h => HB1.out.2 (by have := of_decide_eq_true h; omega)⟩
                clear HB1
                try clear ql1
                try clear ql2
                try clear qr1
                try clear qr2
                go_wp2_with fail
                refine (HPr.out _ HT.out).mono ?_
                rintro e w5 ⟨rfl, hw5⟩
                rw [hw5]
                clear hw5
                go_wp2_with fail
                refine (HPl2.out _ HT.out).mono ?_
                rintro e w5 ⟨rfl, hw5⟩
                rw [hw5]
                clear hw5
                go_wp2_with fail
                go_meet
                case rel => exact ⟨congrArg Value.bool HBd.out.symm, rfl⟩
    case rest =>
      obtain ⟨rfl, hwc⟩ := hcut
      rw [hwc]
      clear hwc
      cases bad with
      | true =>
        have HX : Hid (mayB = false) := HMay2.out
        clear HMay2 HPl2 HPr HC
        go_wp2_with fail
        go_ret
        exact ⟨congrArg (fun x => Ending.returned (.bool x)) HX.out.symm, HNo.out HX.out _ (HTE.out.trans HT.out)⟩
      | false =>
      have HX : Hid (mayB = true) := HMay2.out
      have HLaid : Hid (r.insert ⟨uc, uk, ulc, ulk, urc, urk⟩ = r.laid ⟨uc, uk, ulc, ulk, urc, urk⟩) := by
        show r.insert _ = _
        unfold RS.insert
        rw [← hmayB.out, HX.out]; rfl
      have hfl := RS.find_lt (r := r) ulc ulk
      have hfr := RS.find_lt (r := r) urc urk
      have HIsL : Hid (r.isL ⟨uc, uk, ulc, ulk, urc, urk⟩ = (decide (0 ≤ r.find urc urk) && (decide (ulc = 0 ∧ ulk = 0) || r.ups (r.find ulc ulk) r.l.length (r.nd (r.find urc urk).toNat).par))) := Eq.refl _
      have HNode : Hid (r.node ⟨uc, uk, ulc, ulk, urc, urk⟩ = ⟨⟨uc, uk, ulc, ulk, urc, urk⟩, if r.isL ⟨uc, uk, ulc, ulk, urc, urk⟩ then r.find urc urk else r.find ulc ulk, r.isL ⟨uc, uk, ulc, ulk, urc, urk⟩, [], []⟩) := Eq.refl _
      clear HMay2 HPl2 HPr HNo hmayB hbad
      have hw2 := HC.out _ HT.out
      obtain ⟨⟨c0, c1, c2, c3, c4, c5⟩, z0, z1⟩ := hw2
      obtain ⟨m, hm⟩ : ∃ m, Hid (m = W4.heap.size) := ⟨_, Eq.refl _⟩
      obtain ⟨X0, hX0⟩ : ∃ X, Hid (X = W4.alloc (mnO ⟨⟨uc, uk, ulc, ulk, urc, urk⟩, r.find ulc ulk, false, .slice none 0 0, .slice none 0 0⟩)) := ⟨_, Eq.refl _⟩
      have HM : Hid (E.heap.size ≤ m) := by
        show E.heap.size ≤ m
        rw [hm.out]; exact HT.out.size
      have H0 : Hid (Touch (fun _ => False) E X0 ∧ X0.heap[m]? = some (mnO ⟨⟨uc, uk, ulc, ulk, urc, urk⟩, r.find ulc ulk, false, .slice none 0 0, .slice none 0 0⟩)) := by
        show _ ∧ _
        rw [hX0.out, hm.out]
        exact ⟨HT.out.alloc _, heap_alloc_new _ _⟩
      obtain ⟨isl, hisl⟩ : ∃ x, Hid (x = r.isL ⟨uc, uk, ulc, ulk, urc, urk⟩) := ⟨_, Eq.refl _⟩
      rw [← hisl.out] at HIsL HNode
      generalize hgr : r.find urc urk = fr at *
      generalize hgl : r.find ulc ulk = fl at *
      have HGr : Hid (r.find urc urk = fr ∧ r.find ulc ulk = fl) := ⟨hgr, hgl⟩
      clear hgr hgl
      go_upto_region 8 with fail
      rw [← hX0.out, ← hm.out]
      clear hX0 c0 c1 c2 c3 c4 c5 z0 z1
      go_upto_if 72 with fail
      go_cut [8] (fun t wx => t = .pointer (some ⟨m, 0, none⟩) ∧ Hid (Touch (fun _ => False) E wx ∧ wx.heap[m]? = some (mnO ⟨⟨uc, uk, ulc, ulk, urc, urk⟩, if isl then fr else fl, isl, .slice none 0 0, .slice none 0 0⟩)))
      case first =>
        as_aux_lemma =>
          by_cases hr : 0 ≤ fr
          rotate_left
          · have hb : decide (0 ≤ fr) = false := decide_eq_false hr
            have HI2 : Hid (isl = false) := by
              show isl = false
              rw [HIsL.out, hb]; rfl
            go_wp2_with fail
            go_meet
            case rel => exact ⟨rfl, H0.out.1, by rw [HI2.out]; exact H0.out.2⟩
          have hbr : decide (0 ≤ fr) = true := decide_eq_true hr
          obtain ⟨rt, rfl⟩ := Int.eq_ofNat_of_zero_le hr
          have hrl : rt < r.l.length := by omega
          have HUp : Hid (∀ x, x < r.l.length → -1 ≤ (r.nd x).par ∧ (r.nd x).par < (x : Int)) := hI.up
          have HNd : Hid (∀ W, Touch (fun _ => False) E W → ∃ g cap, W.cell? ⟨b, 0, none⟩ = some (.slice (some ⟨g, 0, none⟩) r.l.length cap) ∧ ∀ i, i < r.l.length → W.cell? ⟨g, i * 10 + 6, none⟩ = some (iV (r.nd i).par)) := fun W t => by
            obtain ⟨ao, cap, h1, h2⟩ := (h.keep (HTE.out.trans t)).nodes
            obtain ⟨g, rfl, h3⟩ := h2 (by omega)
            exact ⟨g, cap, h1, fun i hi => (h3 i hi).c6⟩
          rw [hbr, Bool.true_and, Int.toNat_natCast] at HIsL
          clear hr hbr hfr h hI hl hol HLaid HNode hisl HX HTE HGr
          obtain ⟨n1, hn1⟩ : ∃ x, Hid (x = n + 1) := ⟨_, Eq.refl _⟩
          obtain ⟨zl, hzl⟩ : ∃ x : Bool, Hid (x = decide (ulc = 0 ∧ ulk = 0)) := ⟨_, Eq.refl _⟩
          rw [← hzl.out] at HIsL
          generalize hnn : r.l.length = nn at *
          clear hnn
          go_upto_region 9 with fail
          go_cut [8] (fun t wx => t = .pointer (some ⟨m, 0, none⟩) ∧ Hid (Touch (fun _ => False) E wx ∧ wx.heap[m]? = some (mnO ⟨⟨uc, uk, ulc, ulk, urc, urk⟩, fl, zl, .slice none 0 0, .slice none 0 0⟩)))
          case first =>
            obtain ⟨⟨-, -, c2, c3, -, -⟩, z0, z1⟩ := HC.out _ H0.out.1
            obtain ⟨-, m7, -, z7⟩ := mnO_cells H0.out.2
            have HS : Hid (∀ c, Touch (fun _ => False) E (X0.setCell ⟨m, 7, none⟩ (.bool c)) ∧ (X0.setCell ⟨m, 7, none⟩ (.bool c)).heap[m]? = some (mnO ⟨⟨uc, uk, ulc, ulk, urc, urk⟩, fl, c, .slice none 0 0, .slice none 0 0⟩)) := fun c => ⟨H0.out.1.fresh _ _ _ HM.out, mnO_set7 H0.out.2 c⟩
            clear HNd HUp HIsL
            by_cases ql1 : ulc = 0
            · have el1 : (ulc == 0) = true := by simp [ql1]
              by_cases ql2 : ulk = 0
              · have el2 : (ulk == 0) = true := by simp [ql2]
                have HZ : Hid (zl = true) := by
                  show zl = true
                  rw [hzl.out]; exact decide_eq_true ⟨ql1, ql2⟩
                clear ql1 ql2 hzl
                go_wp2_with fail
                go_meet
                case rel => exact ⟨rfl, by rw [HZ.out]; exact HS.out true⟩
              · have el2 : (ulk == 0) = false := by simp [ql2]
                have HZ : Hid (zl = false) := by
                  show zl = false
                  rw [hzl.out]; exact decide_eq_false fun h => ql2 h.2
                clear ql1 ql2 hzl
                go_wp2_with fail
                go_meet
                case rel => exact ⟨rfl, by rw [HZ.out]; exact HS.out false⟩
            · have el1 : (ulc == 0) = false := by simp [ql1]
              have HZ : Hid (zl = false) := by
                show zl = false
                rw [hzl.out]; exact decide_eq_false fun h => ql1 h.1
              clear ql1 hzl
              go_wp2_with fail
              go_meet
              case rel => exact ⟨rfl, by rw [HZ.out]; exact HS.out false⟩
          case rest =>
            obtain ⟨rfl, H1⟩ := hcut
            obtain ⟨X1, hwf⟩ : ∃ we, we = wc := ⟨_, rfl⟩
            subst hwf
            clear H0 hzl HC
            obtain ⟨g, cap, k0, k1⟩ := HNd.out _ H1.out.1
            have k6 := k1 rt hrl
            have lr : (rt : Int) < (nn : Int) := by omega
            clear k1
            have hpr := HUp.out rt hrl
            generalize hpar : (r.nd rt).par = pr at *
            clear hpar
            obtain ⟨tgt, htgt⟩ : ∃ x, Hid (x = (zl || r.ups fl nn pr)) := ⟨_, Eq.refl _⟩
            have HIs : Hid (isl = tgt) := by
              show isl = tgt
              rw [HIsL.out, htgt.out]
            clear HIsL
            go_upto_region 11 with fail
            clear k0 k6 lr
            go_loopw [9] (fun v wr => ∃ (y : Int) (f : Nat) (c : Bool), v = .int .i64 y ∧ -1 ≤ y ∧ y < (nn : Int) ∧ Hid (y < (f : Int) ∧ (c || r.ups fl f y) = tgt ∧ Touch (fun _ => False) E wr ∧ wr.heap[m]? = some (mnO ⟨⟨uc, uk, ulc, ulk, urc, urk⟩, fl, c, .slice none 0 0, .slice none 0 0⟩))) (fun v _ => (intOf v + 1).toNat)
            case atStart => exact ⟨pr, nn, zl, rfl, hpr.1, by omega, by omega, htgt.out.symm, H1.out⟩
            case round =>
              obtain ⟨y, f, c, rfl, hy1, hy2, HJ⟩ := hrel
              obtain ⟨m6, m7, z6, z7⟩ := mnO_cells HJ.out.2.2.2
              by_cases hy : 0 ≤ y
              · obtain ⟨x, rfl⟩ := Int.eq_ofNat_of_zero_le hy
                have hx : x < nn := by omega
                obtain ⟨f, rfl⟩ : ∃ k, f = k + 1 := ⟨f - 1, by have := HJ.out.1; omega⟩
                obtain ⟨p1, p2⟩ := HUp.out x hx
                have HW : Hid (∀ q : Bool, Touch (fun _ => False) E (wr.setCell ⟨m, 7, none⟩ (.bool q)) ∧ (wr.setCell ⟨m, 7, none⟩ (.bool q)).heap[m]? = some (mnO ⟨⟨uc, uk, ulc, ulk, urc, urk⟩, fl, q, .slice none 0 0, .slice none 0 0⟩)) := fun q => ⟨HJ.out.2.2.1.fresh _ _ _ HM.out, mnO_set7 HJ.out.2.2.2 q⟩
                have HU0 : Hid ((c || (((x : Int) == fl) || r.ups fl f (r.nd x).par)) = tgt) := by
                  have := HJ.out.2.1
                  rw [RS.ups_succ] at this
                  exact this
                have lx : (x : Int) < (nn : Int) := by omega
                clear H1 htgt hpr HIs hfl hn HN1 HT hm hrl
                cases c with
                | true =>
                  have HU : Hid ((true || r.ups fl f (r.nd x).par) = tgt) := HU0.out
                  clear HU0
                  obtain ⟨g, cap, k0, k1⟩ := HNd.out _ (HW.out true).1
                  have k6 := k1 x hx
                  clear k1 HNd HUp
                  generalize (r.nd x).par = px at *
                  go_wp2_with fail
                  exact ⟨⟨px, f, true, rfl, p1, by omega, by have := HJ.out.1; omega, HU.out, HW.out true⟩, by simp [intOf]; omega⟩
                | false =>
                  cases ex : ((x : Int) == fl) with
                  | true =>
                    have HU : Hid ((true || r.ups fl f (r.nd x).par) = tgt) := by
                      have := HU0.out
                      rw [ex] at this
                      exact this
                    clear HU0
                    obtain ⟨g, cap, k0, k1⟩ := HNd.out _ (HW.out true).1
                    have k6 := k1 x hx
                    clear k1 HNd HUp
                    generalize (r.nd x).par = px at *
                    go_wp2_with fail
                    exact ⟨⟨px, f, true, rfl, p1, by omega, by have := HJ.out.1; omega, HU.out, HW.out true⟩, by simp [intOf]; omega⟩
                  | false =>
                    have HU : Hid ((false || r.ups fl f (r.nd x).par) = tgt) := by
                      have := HU0.out
                      rw [ex] at this
                      exact this
                    clear HU0
                    obtain ⟨g, cap, k0, k1⟩ := HNd.out _ (HW.out false).1
                    have k6 := k1 x hx
                    clear k1 HNd HUp
                    generalize (r.nd x).par = px at *
                    go_wp2_with fail
                    exact ⟨⟨px, f, false, rfl, p1, by omega, by have := HJ.out.1; omega, HU.out, HW.out false⟩, by simp [intOf]; omega⟩
              · have HC1 : Hid (isl = c) := by
                  show isl = c
                  have := HJ.out.2.1
                  rw [RS.ups_neg _ _ _ _ (by omega), Bool.or_false] at this
                  rw [HIs.out, ← this]
                clear H1 htgt hpr HIs HNd HUp
                cases c with
                | true =>
                  have HW : Hid (Touch (fun _ => False) E (wr.setCell ⟨m, 6, none⟩ (.int .i64 (rt : Int))) ∧ (wr.setCell ⟨m, 6, none⟩ (.int .i64 (rt : Int))).heap[m]? = some (mnO ⟨⟨uc, uk, ulc, ulk, urc, urk⟩, (rt : Int), true, .slice none 0 0, .slice none 0 0⟩)) := ⟨HJ.out.2.2.1.fresh _ _ _ HM.out, mnO_set6 HJ.out.2.2.2 _⟩
                  go_wp2_with fail
                  go_meet
                  case rel => exact ⟨rfl, by rw [HC1.out]; exact HW.out⟩
                | false =>
                  go_wp2_with fail
                  go_meet
                  case rel => exact ⟨rfl, by rw [HC1.out]; exact HJ.out.2.2⟩
      case rest =>
        obtain ⟨rfl, H1⟩ := hcut
        obtain ⟨X1, hwf⟩ : ∃ we, we = wc := ⟨_, rfl⟩
        subst hwf
        have HFr0 : Hid (isl = true → 0 ≤ fr) := fun e => by
          have := HIsL.out
          rw [e] at this
          exact of_decide_eq_true (Bool.and_eq_true_iff.1 this.symm).1
        clear H0 HIsL HC
        obtain ⟨pp, hpp⟩ : ∃ x, Hid (x = if isl then fr else fl) := ⟨_, Eq.refl _⟩
        rw [← hpp.out] at H1 HNode
        have HW1 : Hid (r.with1 ⟨uc, uk, ulc, ulk, urc, urk⟩ = ⟨r.l ++ [⟨⟨uc, uk, ulc, ulk, urc, urk⟩, pp, isl, [], []⟩], r.more, r.order⟩) := by
          show r.with1 _ = _
          unfold RS.with1
          rw [HNode.out]
        have hX1 := h.keep (HTE.out.trans H1.out.1)
        obtain ⟨ao, cap, g', cap', Y1, q0, hcap, hrun0, hty, hA, hg'⟩ := (hX1.keep ((Touch.refl _ _).drew)).append hl ⟨uc, uk, ulc, ulk, urc, urk⟩ pp isl
        have hbw := h.lt
        have HBb : Hid (b < w.heap.size) := hbw
        have HUn : Hid (X1.heap[n]? = some (unO ⟨uc, uk, ulc, ulk, urc, urk⟩)) := HUnE.out _ H1.out.1
        have HTX : Hid (Touch (fun _ => False) w X1) := HTE.out.trans H1.out.1
        obtain ⟨nn, hnn⟩ : ∃ x, Hid (x = r.l.length) := ⟨_, Eq.refl _⟩
        rw [← hnn.out] at q0 hcap hrun0 hA
        have q1 : X1.cell? ⟨b, 0, none⟩ = some (.slice ao nn cap) := q0
        go_upto_region 17 with fail
        go_cut [10] (fun t wx => t = .int .i64 (nn : Int) ∧ Hid (RqAt wx b (r.with1 ⟨uc, uk, ulc, ulk, urc, urk⟩) ∧ wx.heap[m]? = some (mnO ⟨⟨uc, uk, ulc, ulk, urc, urk⟩, pp, isl, .slice none 0 0, .slice none 0 0⟩) ∧ wx.heap[n]? = some (unO ⟨uc, uk, ulc, ulk, urc, urk⟩) ∧ Touch (fun x => x = b) w wx ∧ ∃ g cap, wx.cell? ⟨b, 0, none⟩ = some (.slice (some ⟨g, 0, none⟩) (nn + 1) cap) ∧ w.heap.size ≤ g))
        case first =>
          have hmb : b ≠ m := by
            have h1 := HM.out
            have h2 := HTE.out.size
            omega
          have hnb : b ≠ n := by
            have h1 := hn.out
            omega
          have HEnd : Hid (RqAt (Y1.setCell ⟨b, 0, none⟩ (.slice (some ⟨g', 0, none⟩) (nn + 1) cap')) b (r.with1 ⟨uc, uk, ulc, ulk, urc, urk⟩) ∧ (Y1.setCell ⟨b, 0, none⟩ (.slice (some ⟨g', 0, none⟩) (nn + 1) cap')).heap[m]? = some (mnO ⟨⟨uc, uk, ulc, ulk, urc, urk⟩, pp, isl, .slice none 0 0, .slice none 0 0⟩) ∧ (Y1.setCell ⟨b, 0, none⟩ (.slice (some ⟨g', 0, none⟩) (nn + 1) cap')).heap[n]? = some (unO ⟨uc, uk, ulc, ulk, urc, urk⟩) ∧ Touch (fun x => x = b) w (Y1.setCell ⟨b, 0, none⟩ (.slice (some ⟨g', 0, none⟩) (nn + 1) cap')) ∧ ∃ g cap, (Y1.setCell ⟨b, 0, none⟩ (.slice (some ⟨g', 0, none⟩) (nn + 1) cap')).cell? ⟨b, 0, none⟩ = some (.slice (some ⟨g, 0, none⟩) (nn + 1) cap) ∧ w.heap.size ≤ g) := by
            have tY : Touch (fun _ => False) X1 Y1 := ((Touch.refl _ _).drew).trans hty
            refine ⟨by rw [HW1.out]; exact hA, ?_, ?_, ?_, g', cap', World.cell?_setCell_same' Y1 ⟨b, 0, none⟩ _ (by rw [World.cell?_of_block (tY.block _ (World.block_lt_of_cell? _ _ q1) id), q1]; rfl), Nat.le_trans HTX.out.size hg'⟩
            · rw [heap_setCell_other _ _ _ _ (by exact hmb)]; exact heap_keep tY H1.out.2
            · rw [heap_setCell_other _ _ _ _ (by exact hnb)]; exact heap_keep tY HUn.out
            · exact ((HTX.out.trans tY).mono fun _ _ e => e.elim).setCell _ _ (fun _ => rfl)
          have hbz : ∀ W : World, (Instr.buildSlice 72 1 #[(0, .agg #[.int .u64 uc, .int .u64 uk, .int .u64 ulc, .int .u64 ulk, .int .u64 urc, .int .u64 urk, .int .i64 pp, .bool isl, .slice none 0 0, .slice none 0 0])]).run Tryz.prog W = .ok (.slice (some ⟨W.heap.size, 0, none⟩) 1 1) (W.alloc (mnO ⟨⟨uc, uk, ulc, ulk, urc, urk⟩, pp, isl, .slice none 0 0, .slice none 0 0⟩)) := fun W => by kernel_rfl
          have hrun : (Builtin.append_ #[72, 72] 72 #[.slice ao nn nn, .slice (some ⟨X1.heap.size, 0, none⟩) 1 1]).run Tryz.prog (X1.alloc (mnO ⟨⟨uc, uk, ulc, ulk, urc, urk⟩, pp, isl, .slice none 0 0, .slice none 0 0⟩)).drew = .ok (.slice (some ⟨g', 0, none⟩) (nn + 1) cap') Y1 := hrun0
          have hsl := fun W => sliceN_to ao nn cap hcap W
          have S0 : X1.drew.heap[m]? = some (mnO ⟨⟨uc, uk, ulc, ulk, urc, urk⟩, pp, isl, .slice none 0 0, .slice none 0 0⟩) := H1.out.2
          have S1 : (X1.alloc (mnO ⟨⟨uc, uk, ulc, ulk, urc, urk⟩, pp, isl, .slice none 0 0, .slice none 0 0⟩)).drew.heap[m]? = some (mnO ⟨⟨uc, uk, ulc, ulk, urc, urk⟩, pp, isl, .slice none 0 0, .slice none 0 0⟩) := heap_keep (((Touch.refl _ _).alloc _).drew) H1.out.2
          have S2 : Y1.heap[m]? = some (mnO ⟨⟨uc, uk, ulc, ulk, urc, urk⟩, pp, isl, .slice none 0 0, .slice none 0 0⟩) := heap_keep hty S0
          have S3 := HEnd.out.2.1
          have hq0 : X1.drew.cell? ⟨b, 0, none⟩ = some (.slice ao nn cap) := q0
          have hq1 : (X1.alloc (mnO ⟨⟨uc, uk, ulc, ulk, urc, urk⟩, pp, isl, .slice none 0 0, .slice none 0 0⟩)).cell? ⟨b, 0, none⟩ = some (.slice ao nn cap) := by
            rw [World.cell?_of_block (Below.heap_alloc _ _ _ (World.block_lt_of_cell? _ _ q1))]; exact q1
          obtain ⟨cb, hcb⟩ := (hX1.keep (((Touch.refl _ _).drew).trans hty)).blk
          have hfz : Y1.frozen? ⟨b, 0, none⟩ = false := free_of_block hcb
          have hcy : Y1.cell? ⟨b, 0, none⟩ = some (.slice ao nn cap) := by
            rw [World.cell?_of_block (hty.block _ (World.block_lt_of_cell? _ _ hq0) id)]; exact hq0
          clear hcb hX1 h hI hA hty hrun0 q0 hq0 hbw hmb hnb HBb hg'
          refine wp_region_held_drew (S := fun W : World => W.heap[m]? = some (mnO ⟨⟨uc, uk, ulc, ulk, urc, urk⟩, pp, isl, .slice none 0 0, .slice none 0 0⟩)) (by kernel_rfl) S0 (fun hHeld => ?_)
          refine wpAnyH_take (i := 0) (oi := { dst := some 113, op := Go.Op.move (Go.Operand.tmp 0), type := 34, pos := "quireref9.go:99", after := #[], guard := none }) (v := qP b) rfl (by kernel_rfl) (by kernel_rfl) (by kernel_rfl) (fun _ _ _ h => h) (Or.inl ⟨by rfl, ?_⟩) hHeld ?_
          · intro w hSw; clear hSw; go_simp
          simp only [Act.put, List.setIfInBounds_toArray, List.set_cons_succ, List.set_cons_zero]
          refine wpAnyH_take (i := 1) (oi := { dst := some 114, op := Go.Op.move (Go.Operand.tmp 0), type := 34, pos := "quireref9.go:99", after := #[], guard := none }) (v := qP b) rfl (by kernel_rfl) (by kernel_rfl) (by kernel_rfl) (fun _ _ _ h => h) (Or.inl ⟨by rfl, ?_⟩) hHeld ?_
          · intro w hSw; clear hSw; go_simp
          simp only [Act.put, List.setIfInBounds_toArray, List.set_cons_succ, List.set_cons_zero]
          refine wpAnyH_take (i := 2) (oi := { dst := some 115, op := Go.Op.nilCheck (Go.Operand.tmp 114), type := 0, pos := "quireref9.go:99", after := #[{ on := 1, ground := Go.Ground.data }], guard := none }) (v := .pointer (some ⟨b, 0, none⟩)) rfl (by kernel_rfl) (by kernel_rfl) (by kernel_rfl) (fun _ _ _ h => h) (Or.inl ⟨by rfl, ?_⟩) hHeld ?_
          · intro w hSw; clear hSw; go_simp
          simp only [Act.put, List.setIfInBounds_toArray, List.set_cons_succ, List.set_cons_zero]
          refine wpAnyH_take (i := 3) (oi := { dst := some 116, op := Go.Op.fieldAddr 75 (Go.Operand.tmp 115) 0, type := 0, pos := "quireref9.go:99", after := #[{ on := 2, ground := Go.Ground.data }], guard := none }) (v := .pointer (some ⟨b, 0, none⟩)) rfl (by kernel_rfl) (by kernel_rfl) (by kernel_rfl) (fun _ _ _ h => h) (Or.inl ⟨by rfl, ?_⟩) hHeld ?_
          · intro w hSw; clear hSw; go_simp
          simp only [Act.put, List.setIfInBounds_toArray, List.set_cons_succ, List.set_cons_zero]
          refine wpAnyH_take (i := 5) (oi := { dst := some 118, op := Go.Op.move (Go.Operand.tmp 10), type := 3, pos := "quireref9.go:99", after := #[], guard := none }) (v := .int .i64 (nn : Int)) rfl (by kernel_rfl) (by kernel_rfl) (by kernel_rfl) (fun _ _ _ h => h) (Or.inl ⟨by rfl, ?_⟩) hHeld ?_
          · intro w hSw; clear hSw; go_simp
          simp only [Act.put, List.setIfInBounds_toArray, List.set_cons_succ, List.set_cons_zero]
          refine wpAnyH_take (i := 6) (oi := { dst := some 119, op := Go.Op.move (Go.Operand.tmp 10), type := 3, pos := "quireref9.go:99", after := #[], guard := none }) (v := .int .i64 (nn : Int)) rfl (by kernel_rfl) (by kernel_rfl) (by kernel_rfl) (fun _ _ _ h => h) (Or.inl ⟨by rfl, ?_⟩) hHeld ?_
          · intro w hSw; clear hSw; go_simp
          simp only [Act.put, List.setIfInBounds_toArray, List.set_cons_succ, List.set_cons_zero]
          refine wpAnyH_take (i := 8) (oi := { dst := some 121, op := Go.Op.load 98 (Go.Operand.tmp 8), type := 98, pos := "quireref9.go:99", after := #[], guard := none }) (v := .agg #[.int .u64 uc, .int .u64 uk, .int .u64 ulc, .int .u64 ulk, .int .u64 urc, .int .u64 urk, .int .i64 pp, .bool isl, .slice none 0 0, .slice none 0 0]) rfl (by kernel_rfl) (by kernel_rfl) (by kernel_rfl) (fun _ _ _ h => h) (Or.inl ⟨by rfl, ?_⟩) hHeld ?_
          · intro w hSw; obtain ⟨s0, s1, s2, s3, s4, s5, s6, s7, s8, s9⟩ := mnO_all hSw; simp only at s0 s1 s2 s3 s4 s5 s6 s7 s8 s9; go_simp
          simp only [Act.put, List.setIfInBounds_toArray, List.set_cons_succ, List.set_cons_zero]
          refine wpAnyH_ready (rs := [4, 9]) (by kernel_rfl) (by simp) ?_
          refine (AllReadyH.cons (o := { dst := some 117, op := Go.Op.load 72 (Go.Operand.tmp 116), type := 72, pos := "quireref9.go:99", after := #[{ on := 3, ground := Go.Ground.data }], guard := none }) rfl (fun K hK => ?_) (AllReadyH.cons (o := { dst := some 122, op := Go.Op.buildSlice 72 1 #[(0, Go.Operand.tmp 121)], type := 72, pos := "quireref9.go:99", after := #[{ on := 8, ground := Go.Ground.data }], guard := none }) rfl (fun K hK => ?_) AllReadyH.nil))
          · go_simp
            refine hK.out _ _ S0 (fun hHeld => ?_)
            clear hK K
            try simp only [Act.put, List.setIfInBounds_toArray, List.set_cons_succ, List.set_cons_zero]
            refine wpAnyH_take (i := 7) (oi := { dst := some 120, op := Go.Op.slice 72 (Go.Operand.tmp 117) none (some (Go.Operand.tmp 118)) (some (Go.Operand.tmp 119)), type := 72, pos := "quireref9.go:99", after := #[{ on := 4, ground := Go.Ground.data }, { on := 5, ground := Go.Ground.data }, { on := 6, ground := Go.Ground.data }], guard := none }) (v := .slice ao nn nn) rfl (by kernel_rfl) (by kernel_rfl) (by kernel_rfl) (fun _ _ _ h => h) (Or.inl ⟨by rfl, ?_⟩) hHeld ?_
            · intro w hSw; clear hSw; go_simp
            simp only [Act.put, List.setIfInBounds_toArray, List.set_cons_succ, List.set_cons_zero]
            refine wpAnyH_ready (rs := [9]) (by kernel_rfl) (by simp) ?_
            refine (AllReadyH.cons (o := { dst := some 122, op := Go.Op.buildSlice 72 1 #[(0, Go.Operand.tmp 121)], type := 72, pos := "quireref9.go:99", after := #[{ on := 8, ground := Go.Ground.data }], guard := none }) rfl (fun K hK => ?_) AllReadyH.nil)
            go_simp
            refine hK.out _ _ S1 (fun hHeld => ?_)
            clear hK K
            try simp only [Act.put, List.setIfInBounds_toArray, List.set_cons_succ, List.set_cons_zero]
            refine wpAnyH_ready (rs := [10]) (by kernel_rfl) (by simp) ?_
            refine (AllReadyH.cons (o := { dst := some 123, op := Go.Op.call { callee := Go.Callee.builtin Go.Builtin.append, args := #[Go.Operand.tmp 120, Go.Operand.tmp 122], argTypes := #[72, 72] }, type := 72, pos := "quireref9.go:99", after := #[{ on := 7, ground := Go.Ground.data }, { on := 9, ground := Go.Ground.data }], guard := none }) rfl (fun K hK => ?_) AllReadyH.nil)
            refine step_append 72 (by rfl) _ _ rfl _ _ _ rfl rfl hrun ?_
            refine hK.out _ _ S2 (fun hHeld => ?_)
            clear hK K
            try simp only [Act.put, List.setIfInBounds_toArray, List.set_cons_succ, List.set_cons_zero]
            refine wpAnyH_take (i := 11) (oi := { dst := some 124, op := Go.Op.nilCheck (Go.Operand.tmp 113), type := 0, pos := "quireref9.go:99", after := #[{ on := 0, ground := Go.Ground.data }, { on := 0, ground := Go.Ground.phase }, { on := 1, ground := Go.Ground.phase }, { on := 2, ground := Go.Ground.phase }, { on := 3, ground := Go.Ground.phase }, { on := 4, ground := Go.Ground.phase }, { on := 5, ground := Go.Ground.phase }, { on := 6, ground := Go.Ground.phase }, { on := 7, ground := Go.Ground.phase }, { on := 8, ground := Go.Ground.phase }, { on := 9, ground := Go.Ground.phase }, { on := 10, ground := Go.Ground.phase }], guard := none }) (v := .pointer (some ⟨b, 0, none⟩)) rfl (by kernel_rfl) (by kernel_rfl) (by kernel_rfl) (fun _ _ _ h => h) (Or.inl ⟨by rfl, ?_⟩) hHeld ?_
            · intro w hSw; clear hSw; go_simp
            simp only [Act.put, List.setIfInBounds_toArray, List.set_cons_succ, List.set_cons_zero]
            refine wpAnyH_take (i := 12) (oi := { dst := some 125, op := Go.Op.fieldAddr 75 (Go.Operand.tmp 124) 0, type := 0, pos := "quireref9.go:99", after := #[{ on := 11, ground := Go.Ground.data }, { on := 0, ground := Go.Ground.phase }, { on := 1, ground := Go.Ground.phase }, { on := 2, ground := Go.Ground.phase }, { on := 3, ground := Go.Ground.phase }, { on := 4, ground := Go.Ground.phase }, { on := 5, ground := Go.Ground.phase }, { on := 6, ground := Go.Ground.phase }, { on := 7, ground := Go.Ground.phase }, { on := 8, ground := Go.Ground.phase }, { on := 9, ground := Go.Ground.phase }, { on := 10, ground := Go.Ground.phase }], guard := none }) (v := .pointer (some ⟨b, 0, none⟩)) rfl (by kernel_rfl) (by kernel_rfl) (by kernel_rfl) (fun _ _ _ h => h) (Or.inl ⟨by rfl, ?_⟩) hHeld ?_
            · intro w hSw; clear hSw; go_simp
            simp only [Act.put, List.setIfInBounds_toArray, List.set_cons_succ, List.set_cons_zero]
            refine wpAnyH_ready (rs := [13]) (by kernel_rfl) (by simp) ?_
            refine (AllReadyH.cons (o := { dst := none, op := Go.Op.store 72 (Go.Operand.tmp 125) (Go.Operand.tmp 123), type := 0, pos := "quireref9.go:99", after := #[{ on := 12, ground := Go.Ground.data }, { on := 10, ground := Go.Ground.data }, { on := 10, ground := Go.Ground.chain }, { on := 0, ground := Go.Ground.phase }, { on := 1, ground := Go.Ground.phase }, { on := 2, ground := Go.Ground.phase }, { on := 3, ground := Go.Ground.phase }, { on := 4, ground := Go.Ground.phase }, { on := 5, ground := Go.Ground.phase }, { on := 6, ground := Go.Ground.phase }, { on := 7, ground := Go.Ground.phase }, { on := 8, ground := Go.Ground.phase }, { on := 9, ground := Go.Ground.phase }, { on := 10, ground := Go.Ground.phase }], guard := none }) rfl (fun K hK => ?_) AllReadyH.nil)
            go_simp
            refine hK.out _ _ S3 (fun hHeld => ?_)
            clear hK K
            try simp only [Act.put, List.setIfInBounds_toArray, List.set_cons_succ, List.set_cons_zero]
            refine wpAnyH_done (by kernel_rfl) ?_ _
            try simp only [List.getElem_toArray, List.getElem_cons_succ, List.getElem_cons_zero, List.setIfInBounds_toArray, List.set_cons_succ, List.set_cons_zero]
            try go_wp2_with fail
            go_meet
            case rel => exact ⟨rfl, HEnd.out⟩
          · go_simp
            refine hK.out _ _ S1 (fun hHeld => ?_)
            clear hK K
            try simp only [Act.put, List.setIfInBounds_toArray, List.set_cons_succ, List.set_cons_zero]
            refine wpAnyH_ready (rs := [4]) (by kernel_rfl) (by simp) ?_
            refine (AllReadyH.cons (o := { dst := some 117, op := Go.Op.load 72 (Go.Operand.tmp 116), type := 72, pos := "quireref9.go:99", after := #[{ on := 3, ground := Go.Ground.data }], guard := none }) rfl (fun K hK => ?_) AllReadyH.nil)
            go_simp
            refine hK.out _ _ S1 (fun hHeld => ?_)
            clear hK K
            try simp only [Act.put, List.setIfInBounds_toArray, List.set_cons_succ, List.set_cons_zero]
            refine wpAnyH_take (i := 7) (oi := { dst := some 120, op := Go.Op.slice 72 (Go.Operand.tmp 117) none (some (Go.Operand.tmp 118)) (some (Go.Operand.tmp 119)), type := 72, pos := "quireref9.go:99", after := #[{ on := 4, ground := Go.Ground.data }, { on := 5, ground := Go.Ground.data }, { on := 6, ground := Go.Ground.data }], guard := none }) (v := .slice ao nn nn) rfl (by kernel_rfl) (by kernel_rfl) (by kernel_rfl) (fun _ _ _ h => h) (Or.inl ⟨by rfl, ?_⟩) hHeld ?_
            · intro w hSw; clear hSw; go_simp
            simp only [Act.put, List.setIfInBounds_toArray, List.set_cons_succ, List.set_cons_zero]
            refine wpAnyH_ready (rs := [10]) (by kernel_rfl) (by simp) ?_
            refine (AllReadyH.cons (o := { dst := some 123, op := Go.Op.call { callee := Go.Callee.builtin Go.Builtin.append, args := #[Go.Operand.tmp 120, Go.Operand.tmp 122], argTypes := #[72, 72] }, type := 72, pos := "quireref9.go:99", after := #[{ on := 7, ground := Go.Ground.data }, { on := 9, ground := Go.Ground.data }], guard := none }) rfl (fun K hK => ?_) AllReadyH.nil)
            refine step_append 72 (by rfl) _ _ rfl _ _ _ rfl rfl hrun ?_
            refine hK.out _ _ S2 (fun hHeld => ?_)
            clear hK K
            try simp only [Act.put, List.setIfInBounds_toArray, List.set_cons_succ, List.set_cons_zero]
            refine wpAnyH_take (i := 11) (oi := { dst := some 124, op := Go.Op.nilCheck (Go.Operand.tmp 113), type := 0, pos := "quireref9.go:99", after := #[{ on := 0, ground := Go.Ground.data }, { on := 0, ground := Go.Ground.phase }, { on := 1, ground := Go.Ground.phase }, { on := 2, ground := Go.Ground.phase }, { on := 3, ground := Go.Ground.phase }, { on := 4, ground := Go.Ground.phase }, { on := 5, ground := Go.Ground.phase }, { on := 6, ground := Go.Ground.phase }, { on := 7, ground := Go.Ground.phase }, { on := 8, ground := Go.Ground.phase }, { on := 9, ground := Go.Ground.phase }, { on := 10, ground := Go.Ground.phase }], guard := none }) (v := .pointer (some ⟨b, 0, none⟩)) rfl (by kernel_rfl) (by kernel_rfl) (by kernel_rfl) (fun _ _ _ h => h) (Or.inl ⟨by rfl, ?_⟩) hHeld ?_
            · intro w hSw; clear hSw; go_simp
            simp only [Act.put, List.setIfInBounds_toArray, List.set_cons_succ, List.set_cons_zero]
            refine wpAnyH_take (i := 12) (oi := { dst := some 125, op := Go.Op.fieldAddr 75 (Go.Operand.tmp 124) 0, type := 0, pos := "quireref9.go:99", after := #[{ on := 11, ground := Go.Ground.data }, { on := 0, ground := Go.Ground.phase }, { on := 1, ground := Go.Ground.phase }, { on := 2, ground := Go.Ground.phase }, { on := 3, ground := Go.Ground.phase }, { on := 4, ground := Go.Ground.phase }, { on := 5, ground := Go.Ground.phase }, { on := 6, ground := Go.Ground.phase }, { on := 7, ground := Go.Ground.phase }, { on := 8, ground := Go.Ground.phase }, { on := 9, ground := Go.Ground.phase }, { on := 10, ground := Go.Ground.phase }], guard := none }) (v := .pointer (some ⟨b, 0, none⟩)) rfl (by kernel_rfl) (by kernel_rfl) (by kernel_rfl) (fun _ _ _ h => h) (Or.inl ⟨by rfl, ?_⟩) hHeld ?_
            · intro w hSw; clear hSw; go_simp
            simp only [Act.put, List.setIfInBounds_toArray, List.set_cons_succ, List.set_cons_zero]
            refine wpAnyH_ready (rs := [13]) (by kernel_rfl) (by simp) ?_
            refine (AllReadyH.cons (o := { dst := none, op := Go.Op.store 72 (Go.Operand.tmp 125) (Go.Operand.tmp 123), type := 0, pos := "quireref9.go:99", after := #[{ on := 12, ground := Go.Ground.data }, { on := 10, ground := Go.Ground.data }, { on := 10, ground := Go.Ground.chain }, { on := 0, ground := Go.Ground.phase }, { on := 1, ground := Go.Ground.phase }, { on := 2, ground := Go.Ground.phase }, { on := 3, ground := Go.Ground.phase }, { on := 4, ground := Go.Ground.phase }, { on := 5, ground := Go.Ground.phase }, { on := 6, ground := Go.Ground.phase }, { on := 7, ground := Go.Ground.phase }, { on := 8, ground := Go.Ground.phase }, { on := 9, ground := Go.Ground.phase }, { on := 10, ground := Go.Ground.phase }], guard := none }) rfl (fun K hK => ?_) AllReadyH.nil)
            go_simp
            refine hK.out _ _ S3 (fun hHeld => ?_)
            clear hK K
            try simp only [Act.put, List.setIfInBounds_toArray, List.set_cons_succ, List.set_cons_zero]
            refine wpAnyH_done (by kernel_rfl) ?_ _
            try simp only [List.getElem_toArray, List.getElem_cons_succ, List.getElem_cons_zero, List.setIfInBounds_toArray, List.set_cons_succ, List.set_cons_zero]
            try go_wp2_with fail
            go_meet
            case rel => exact ⟨rfl, HEnd.out⟩
        case rest =>
          obtain ⟨rfl, H2⟩ := hcut
          obtain ⟨X2, hwf⟩ : ∃ we, we = wc := ⟨_, rfl⟩
          subst hwf
          obtain ⟨s, hs⟩ : ∃ s, Hid (s = r.with1 ⟨uc, uk, ulc, ulk, urc, urk⟩) := ⟨_, Eq.refl _⟩
          rw [← hs.out] at H2
          have HSl : Hid (s.l.length = nn + 1 ∧ s.order.length ≤ 1000000 ∧ ((∀ y ∈ s.more, y < nn) ∧ s.more.length ≤ 1000000) ∧ ∀ x, x < nn → (∀ y ∈ (s.nd x).lefts, y < nn) ∧ (∀ y ∈ (s.nd x).more, y < nn) ∧ (s.nd x).lefts.length ≤ 1000000 ∧ (s.nd x).more.length ≤ 1000000) := by
            show _ ∧ _
            have e : s = r.with1 ⟨uc, uk, ulc, ulk, urc, urk⟩ := hs.out
            have en : nn = r.l.length := hnn.out
            have ew := hI.ord
            have el : (r.walk r.l.length r.more).length ≤ 1000000 := by rw [← ew]; exact hol
            have e2 := RS.walk_ge r _ _ hI.deep
            refine ⟨by rw [e, en]; simp [RS.with1], by rw [e]; exact hol, ⟨by rw [e, en]; exact hI.root, by rw [e]; exact Nat.le_trans e2 el⟩, fun x hx => ?_⟩
            have e1 : s.nd x = r.nd x := by rw [e, with1_nd, if_neg (by omega)]
            have hxm : x ∈ r.walk r.l.length r.more := by
              rw [← ew]
              exact List.count_pos_iff.1 (by rw [hI.one x (by omega)]; exact Nat.one_pos)
            have e3 := RS.kids_len r _ _ hI.deep hxm
            rw [e1, en]
            have e4 := hI.kids x (by omega)
            exact ⟨e4.1, e4.2, Nat.le_trans e3.1 el, Nat.le_trans e3.2 el⟩
          have HW2 : Hid (r.with2 ⟨uc, uk, ulc, ulk, urc, urk⟩ = if isl then ⟨s.l.modify fr.toNat fun n => ⟨n.u, n.par, n.left, withinL n.lefts (s.leftsL n.lefts uc uk) nn, n.more⟩, s.more, s.order⟩ else if 0 ≤ fl then ⟨s.l.modify fl.toNat fun n => ⟨n.u, n.par, n.left, n.lefts, s.amongL n.more nn⟩, s.more, s.order⟩ else ⟨s.l, s.amongL s.more nn, s.order⟩) := by
            show r.with2 _ = _
            unfold RS.with2
            simp only [← hisl.out, HGr.out.1, HGr.out.2, ← hs.out, ← hnn.out]
          have HDeep : Hid ((r.with2 ⟨uc, uk, ulc, ulk, urc, urk⟩).Deep (r.with2 ⟨uc, uk, ulc, ulk, urc, urk⟩).l.length (r.with2 ⟨uc, uk, ulc, ulk, urc, urk⟩).more ∧ ((r.with2 ⟨uc, uk, ulc, ulk, urc, urk⟩).walk (r.with2 ⟨uc, uk, ulc, ulk, urc, urk⟩).l.length (r.with2 ⟨uc, uk, ulc, ulk, urc, urk⟩).more).length ≤ 1000001) := by
            have hi := (hI.laidI ⟨uc, uk, ulc, ulk, urc, urk⟩).1
            refine ⟨RS.deep_same (a := r.laid ⟨uc, uk, ulc, ulk, urc, urk⟩) (b := r.with2 ⟨uc, uk, ulc, ulk, urc, urk⟩) rfl _ _ hi.deep, ?_⟩
            have h1 : (r.laid ⟨uc, uk, ulc, ulk, urc, urk⟩).order.length = (r.laid ⟨uc, uk, ulc, ulk, urc, urk⟩).l.length := hi.len
            have h2 := RS.insert_len r ⟨uc, uk, ulc, ulk, urc, urk⟩
            rw [HLaid.out] at h2
            have h3 : ((r.with2 ⟨uc, uk, ulc, ulk, urc, urk⟩).walk (r.with2 ⟨uc, uk, ulc, ulk, urc, urk⟩).l.length (r.with2 ⟨uc, uk, ulc, ulk, urc, urk⟩).more).length = (r.laid ⟨uc, uk, ulc, ulk, urc, urk⟩).order.length := rfl
            omega
          have HFin : Hid (r.insert ⟨uc, uk, ulc, ulk, urc, urk⟩ = ⟨(r.with2 ⟨uc, uk, ulc, ulk, urc, urk⟩).l, (r.with2 ⟨uc, uk, ulc, ulk, urc, urk⟩).more, (r.with2 ⟨uc, uk, ulc, ulk, urc, urk⟩).walk (r.with2 ⟨uc, uk, ulc, ulk, urc, urk⟩).l.length (r.with2 ⟨uc, uk, ulc, ulk, urc, urk⟩).more⟩) := HLaid.out
          obtain ⟨-, m7, -, -⟩ := mnO_cells H2.out.2.1
          clear HNode HLaid H1 HW1 q0 q1 hcap hrun0 hty hA hX1 HUn HTX HUnE
          obtain ⟨S2, hS2⟩ : ∃ s, Hid (s = r.with2 ⟨uc, uk, ulc, ulk, urc, urk⟩) := ⟨_, Eq.refl _⟩
          rw [← hS2.out] at HW2 HDeep HFin
          go_upto_block 2 with fail
          go_cut [10] (fun t wx => t = .int .i64 (nn : Int) ∧ Hid (RqAt wx b S2 ∧ Touch (fun x => x = b) w wx))
          case first =>
            clear HDeep HFin
            cases isl with
            | true =>
              as_aux_lemma =>
                have hr0 := HFr0.out rfl
                obtain ⟨rt, rfl⟩ := Int.eq_ofNat_of_zero_le hr0
                have hrl : rt < nn := by
                  have := hnn.out
                  omega
                obtain ⟨hsl, hso, -, hsk⟩ := HSl.out
                obtain ⟨hk1, -, hk3, -⟩ := hsk rt hrl
                rw [if_pos rfl, Int.toNat_natCast] at HW2
                obtain ⟨ao, cap, k0, kx⟩ := H2.out.1.nodes
                obtain ⟨g, rfl, ky⟩ := kx (by omega)
                have hgw : w.heap.size ≤ g := by
                  obtain ⟨-, -, -, -, g0, cap0, e0, h0⟩ := H2.out
                  rw [k0] at e0
                  simp only [Option.some.injEq, Value.slice.injEq, Addr.mk.injEq] at e0
                  omega
                obtain ⟨lv, k8, hv⟩ := (ky rt (by omega)).c8
                obtain ⟨lf, hlf⟩ : ∃ x, Hid (x = (s.nd rt).lefts) := ⟨_, Eq.refl _⟩
                rw [← hlf.out] at hk1 hk3 hv
                obtain ⟨lo, lcap, rfl, hvc⟩ := hv.nums
                obtain ⟨I, hII⟩ : ∃ I, Hid (I = s.leftsL lf uc uk) := ⟨_, Eq.refl _⟩
                have hIl : I ≤ lf.length := by rw [hII.out]; exact leftsL_le _ _ _ _
                have HLt : Hid (∀ j (hj : j < lf.length), j < I → lessI (s.nd lf[j]).u.c (s.nd lf[j]).u.k uc uk = true) := fun j hj h => leftsL_lt s lf uc uk j hj (by rw [← hII.out]; exact h)
                have HAt : Hid (∀ (hj : I < lf.length), lessI (s.nd lf[I]).u.c (s.nd lf[I]).u.k uc uk = false) := fun hj => by
                  have := leftsL_at s lf uc uk (by rw [← hII.out]; exact hj)
                  simpa only [← hII.out] using this
                have HFa : Hid (∀ W x, Calls Tryz.prog 51 #[.agg #[.int .u64 (s.nd x).u.c, .int .u64 (s.nd x).u.k], .agg #[.int .u64 uc, .int .u64 uk]] W fun e w' => e = .returned (.bool (lessI (s.nd x).u.c (s.nd x).u.k uc uk)) ∧ Touch (fun _ => False) W w') := fun W x => (rless_any _ _ _ _ W).mono (by rintro e w2 ⟨rfl, rfl⟩; exact ⟨rfl, ((Touch.refl _ _).alloc _).alloc _⟩)
                have HCk : Hid (∀ W, Touch (fun _ => False) X2 W → ∀ j (hj : j < lf.length), ∃ g2 o, lo = some ⟨g2, o, none⟩ ∧ (W.cell? ⟨b, 0, none⟩ = some (.slice (some ⟨g, 0, none⟩) s.l.length cap) ∧ W.cell? ⟨g2, o + j, none⟩ = some (.int .i64 (lf[j] : Int)) ∧ W.cell? ⟨g, lf[j] * 10, none⟩ = some (.int .u64 (s.nd lf[j]).u.c) ∧ W.cell? ⟨g, lf[j] * 10 + 1, none⟩ = some (.int .u64 (s.nd lf[j]).u.k) ∧ W.cell? ⟨n, 0, none⟩ = some (.int .u64 uc) ∧ W.cell? ⟨n, 1, none⟩ = some (.int .u64 uk)) ∧ lf[j] < s.l.length) := fun W t j hj => by
                  obtain ⟨g2, o, e, q⟩ := hvc (by omega)
                  have X : ∀ {p : Addr} {y : Value}, X2.cell? p = some y → W.cell? p = some y := fun {p y} hc => by
                    rw [World.cell?_of_block (t.block _ (World.block_lt_of_cell? _ _ hc) id)]; exact hc
                  have hx : lf[j] < s.l.length := by
                    have := hk1 _ (List.getElem_mem hj)
                    omega
                  have hu := unO_cells H2.out.2.2.1
                  exact ⟨g2, o, e, ⟨X k0, X (q j hj), X (ky _ hx).c0, X (ky _ hx).c1, X hu.1, X hu.2.1⟩, hx⟩
                have HWi : Hid (∀ W, Touch (fun _ => False) X2 W → Calls Tryz.prog 62 #[.slice lo lf.length lcap, .int .i64 (I : Int), .int .i64 (nn : Int)] W fun e w' => ∃ v', e = .returned v' ∧ NewJ W w' v' (ints (withinL lf I nn))) := fun W t => by
                  have := qwithin_any (hv.touch t) I (by simpa using hIl) (nn : Int) (by simp; omega)
                  have e : ints (withinL lf I nn) = (ints lf).take I ++ (nn : Int) :: (ints lf).drop I := by
                    unfold withinL ints
                    rw [List.map_append, List.map_cons, List.map_take, List.map_drop]; rfl
                  rw [e]; exact this
                have HEnd : Hid (∀ W v, Touch (fun _ => False) X2 W → SlJ W v (ints (withinL lf I nn)) → RqAt (W.setCell ⟨g, rt * 10 + 8, none⟩ v) b S2 ∧ Touch (fun x => x = b) w (W.setCell ⟨g, rt * 10 + 8, none⟩ v)) := fun W v t hvv => by
                  have hW := H2.out.1.keep t
                  have hc : W.cell? ⟨b, 0, none⟩ = some (.slice (some ⟨g, 0, none⟩) s.l.length cap) := by
                    rw [World.cell?_of_block (t.block _ (World.block_lt_of_cell? _ _ k0) id)]; exact k0
                  refine ⟨?_, (H2.out.2.2.2.1.trans (t.mono fun _ _ e => e.elim)).setCell _ _ ?_⟩
                  · have h5 := hW.setLefts rt (by omega) hc v _ hvv
                    rw [HW2.out]
                    have e : (s.l.modify rt fun n => ⟨n.u, n.par, n.left, withinL n.lefts (s.leftsL n.lefts uc uk) nn, n.more⟩) = s.l.modify rt fun n => ⟨n.u, n.par, n.left, withinL lf I nn, n.more⟩ := modify_same _ _ _ _ fun q hq => by
                      have eq : q = s.nd rt := by unfold RS.nd; rw [hq]; rfl
                      rw [eq, ← hlf.out, ← hII.out]
                    rw [e]; exact h5
                  · intro hlt
                    exact absurd hlt (by show ¬ g < w.heap.size; omega)
                have HFz : Hid (∀ W, Touch (fun _ => False) X2 W → W.frozen? ⟨g, rt * 10 + 8, none⟩ = false ∧ W.cell? ⟨g, rt * 10 + 8, none⟩ = some (.slice lo lf.length lcap) ∧ W.cell? ⟨b, 0, none⟩ = some (.slice (some ⟨g, 0, none⟩) s.l.length cap) ∧ ∀ v, (W.setCell ⟨g, rt * 10 + 8, none⟩ v).cell? ⟨b, 0, none⟩ = some (.slice (some ⟨g, 0, none⟩) s.l.length cap)) := fun W t => by
                  have X : ∀ {p : Addr} {y : Value}, X2.cell? p = some y → W.cell? p = some y := fun {p y} hc => by
                    rw [World.cell?_of_block (t.block _ (World.block_lt_of_cell? _ _ hc) id)]; exact hc
                  have hbg : (⟨g, rt * 10 + 8, none⟩ : Addr) ≠ ⟨b, 0, none⟩ := fun e => by
                    simp only [Addr.mk.injEq] at e
                    have := HBb.out
                    omega
                  refine ⟨?_, X k8, X k0, fun v => by rw [World.cell?_setCell_other W _ _ _ hbg]; exact X k0⟩
                  exact (H2.out.1.keep t).freeN (by omega) (X k0) _
                have k8' := k8
                have nl : (rt : Int) < (s.l.length : Int) := by omega
                have hsl1 : rt < s.l.length := by omega
                clear hk1 hv hvc hsk hso kx ky hr0 hlf hII HSl HW2 HFr0 hnn hs hS2 hI h hl hol hgw hsl hfr hfl
                have hsl0 : Hid (rt < s.l.length) := hsl1
                clear hsl1
                generalize s.l.length = sl at *
                go_upto_block 3 with fail
                clear m7 k8' nl
                go_cut [12] (fun t wx => t = .int .i64 (I : Int) ∧ Hid (Touch (fun _ => False) X2 wx))
                case first =>
                  clear HWi HEnd HFz k0 k8
                  go_wp2_with fail
                  go_loopw [12] (fun i wr => ∃ j : Nat, i = .int .i64 (j : Int) ∧ j ≤ I ∧ Hid (Touch (fun _ => False) X2 wr)) (fun i _ => (I - intOf i).toNat)
                  case atStart => exact ⟨0, rfl, Nat.zero_le _, Touch.refl _ _⟩
                  case round =>
                    obtain ⟨j, rfl, hj, HJ⟩ := hrel
                    by_cases hlt : j < lf.length
                    · obtain ⟨g2, o, rfl, -, -⟩ := HCk.out _ HJ.out j hlt
                      have HCj : Hid (∀ W, Touch (fun _ => False) X2 W → W.cell? ⟨b, 0, none⟩ = some (.slice (some ⟨g, 0, none⟩) sl cap) ∧ W.cell? ⟨g2, o + j, none⟩ = some (.int .i64 (lf[j] : Int)) ∧ W.cell? ⟨g, lf[j] * 10, none⟩ = some (.int .u64 (s.nd lf[j]).u.c) ∧ W.cell? ⟨g, lf[j] * 10 + 1, none⟩ = some (.int .u64 (s.nd lf[j]).u.k) ∧ W.cell? ⟨n, 0, none⟩ = some (.int .u64 uc) ∧ W.cell? ⟨n, 1, none⟩ = some (.int .u64 uk)) := fun W t => by
                        obtain ⟨g3, o3, e, q, _⟩ := HCk.out W t j hlt
                        simp only [Option.some.injEq, Addr.mk.injEq] at e
                        obtain ⟨rfl, rfl, -⟩ := e
                        exact q
                      have hxl : ((lf[j] : Nat) : Int) < (sl : Int) := by
                        obtain ⟨_, _, _, _, q⟩ := HCk.out _ HJ.out j hlt
                        omega
                      have HF1 := fun W => HFa.out W lf[j]
                      have l0 : (j : Int) < (lf.length : Int) := by omega
                      have S0 := HCj.out _ HJ.out.drew
                      by_cases hji : j < I
                      · have HR := HLt.out j hlt hji
                        rw [HR] at HF1
                        clear HR HLt HAt HFa HCk
                        generalize (s.nd lf[j]).u.c = xc at *
                        generalize (s.nd lf[j]).u.k = xk at *
                        generalize lf[j] = x at *
                        have HF2 : Hid (∀ W, Calls Tryz.prog 51 #[.agg #[.int .u64 xc, .int .u64 xk], .agg #[.int .u64 uc, .int .u64 uk]] W fun e w' => e = .returned (.bool true) ∧ Touch (fun _ => False) W w') := HF1
                        clear HF1
                        go_upto_region 22 with fail
                        go_region_held3 (fun W => W.cell? ⟨b, 0, none⟩ = some (.slice (some ⟨g, 0, none⟩) sl cap) ∧ W.cell? ⟨g2, o + j, none⟩ = some (.int .i64 (x : Int)) ∧ W.cell? ⟨g, x * 10, none⟩ = some (.int .u64 xc) ∧ W.cell? ⟨g, x * 10 + 1, none⟩ = some (.int .u64 xk) ∧ W.cell? ⟨n, 0, none⟩ = some (.int .u64 uc) ∧ W.cell? ⟨n, 1, none⟩ = some (.int .u64 uk)) (first | assumption)
                          (first
                            | (go_at_call 51; (with_reducible refine (HF2.out _).mono ?_); rintro e w3 ⟨rfl, t3⟩; have HT3 : Hid (Touch (fun _ => False) X2 w3) := HJ.out.drew.trans t3; have S1 := HCj.out w3 HT3.out; clear t3))
                        all_goals (try go_wp2_with fail)
                        all_goals exact ⟨⟨j + 1, by go_num, by omega, HT3.out⟩, by simp [intOf]; omega⟩
                      · have hjI : j = I := by omega
                        subst hjI
                        have HR := HAt.out hlt
                        rw [HR] at HF1
                        clear HR HLt HAt HFa HCk
                        generalize (s.nd lf[j]).u.c = xc at *
                        generalize (s.nd lf[j]).u.k = xk at *
                        generalize lf[j] = x at *
                        have HF2 : Hid (∀ W, Calls Tryz.prog 51 #[.agg #[.int .u64 xc, .int .u64 xk], .agg #[.int .u64 uc, .int .u64 uk]] W fun e w' => e = .returned (.bool false) ∧ Touch (fun _ => False) W w') := HF1
                        clear HF1
                        go_upto_region 22 with fail
                        go_region_held3 (fun W => W.cell? ⟨b, 0, none⟩ = some (.slice (some ⟨g, 0, none⟩) sl cap) ∧ W.cell? ⟨g2, o + j, none⟩ = some (.int .i64 (x : Int)) ∧ W.cell? ⟨g, x * 10, none⟩ = some (.int .u64 xc) ∧ W.cell? ⟨g, x * 10 + 1, none⟩ = some (.int .u64 xk) ∧ W.cell? ⟨n, 0, none⟩ = some (.int .u64 uc) ∧ W.cell? ⟨n, 1, none⟩ = some (.int .u64 uk)) (first | assumption)
                          (first
                            | (go_at_call 51; (with_reducible refine (HF2.out _).mono ?_); rintro e w3 ⟨rfl, t3⟩; have HT3 : Hid (Touch (fun _ => False) X2 w3) := HJ.out.drew.trans t3; have S1 := HCj.out w3 HT3.out; clear t3))
                        all_goals (try go_wp2_with fail)
                        all_goals go_meet
                        all_goals (case rel => exact ⟨rfl, HT3.out⟩)
                    · have hjI : j = I := by omega
                      subst hjI
                      have hjl : j = lf.length := by omega
                      clear HLt HAt HFa HCk
                      generalize lf.length = ln at *
                      subst hjl
                      go_upto_region 22 with fail
                      go_quiet (fail)
                      go_wp2_with fail
                      go_meet
                      case rel => exact ⟨rfl, HJ.out.drewN _⟩
                case rest =>
                  obtain ⟨rfl, H3⟩ := hcut
                  obtain ⟨X3, hwf⟩ : ∃ we, we = wc := ⟨_, rfl⟩
                  subst hwf
                  clear HLt HAt HFa HCk hIl hk3
                  obtain ⟨-, -, S0, -⟩ := HFz.out _ H3.out.drew
                  have HWj := HWi.out _ H3.out.drew
                  have HWk : Hid (Calls Tryz.prog 62 #[.slice lo lf.length lcap, .int .i64 (I : Int), .int .i64 (nn : Int)] X3.drew fun e w' => ∃ v', e = .returned v' ∧ NewJ X3.drew w' v' (ints (withinL lf I nn))) := HWj
                  clear HWj HWi k0 k8
                  generalize lf.length = ln at *
                  have nl : (rt : Int) < (sl : Int) := by have := hsl0.out; omega
                  go_upto_region 24 with fail
                  refine wp_region_held_drew (S := fun W : World => W.cell? ⟨b, 0, none⟩ = some (.slice (some ⟨g, 0, none⟩) sl cap)) (by kernel_rfl) S0 (fun hHeld => ?_)
                  refine wpAnyH_take (i := 0) (oi := { dst := some 170, op := Go.Op.move (Go.Operand.tmp 0), type := 34, pos := "quireref9.go:107", after := #[], guard := none }) (v := qP b) rfl (by kernel_rfl) (by kernel_rfl) (by kernel_rfl) (fun _ _ _ h => h) (Or.inl ⟨by rfl, ?_⟩) hHeld ?_
                  · intro w hSw; clear hSw; go_simp
                  simp only [Act.put, List.setIfInBounds_toArray, List.set_cons_succ, List.set_cons_zero]
                  refine wpAnyH_take (i := 1) (oi := { dst := some 171, op := Go.Op.nilCheck (Go.Operand.tmp 170), type := 0, pos := "quireref9.go:107", after := #[{ on := 0, ground := Go.Ground.data }], guard := none }) (v := .pointer (some ⟨b, 0, none⟩)) rfl (by kernel_rfl) (by kernel_rfl) (by kernel_rfl) (fun _ _ _ h => h) (Or.inl ⟨by rfl, ?_⟩) hHeld ?_
                  · intro w hSw; clear hSw; go_simp
                  simp only [Act.put, List.setIfInBounds_toArray, List.set_cons_succ, List.set_cons_zero]
                  refine wpAnyH_take (i := 2) (oi := { dst := some 172, op := Go.Op.fieldAddr 75 (Go.Operand.tmp 171) 0, type := 0, pos := "quireref9.go:107", after := #[{ on := 1, ground := Go.Ground.data }], guard := none }) (v := .pointer (some ⟨b, 0, none⟩)) rfl (by kernel_rfl) (by kernel_rfl) (by kernel_rfl) (fun _ _ _ h => h) (Or.inl ⟨by rfl, ?_⟩) hHeld ?_
                  · intro w hSw; clear hSw; go_simp
                  simp only [Act.put, List.setIfInBounds_toArray, List.set_cons_succ, List.set_cons_zero]
                  refine wpAnyH_take (i := 3) (oi := { dst := some 173, op := Go.Op.load 72 (Go.Operand.tmp 172), type := 72, pos := "quireref9.go:107", after := #[{ on := 2, ground := Go.Ground.data }], guard := none }) (v := .slice (some ⟨g, 0, none⟩) sl cap) rfl (by kernel_rfl) (by kernel_rfl) (by kernel_rfl) (fun _ _ _ h => h) (Or.inl ⟨by rfl, ?_⟩) hHeld ?_
                  · intro w hSw; skip; go_simp
                  simp only [Act.put, List.setIfInBounds_toArray, List.set_cons_succ, List.set_cons_zero]
                  refine wpAnyH_take (i := 4) (oi := { dst := some 174, op := Go.Op.move (Go.Operand.tmp 7), type := 3, pos := "quireref9.go:107", after := #[], guard := none }) (v := .int .i64 (rt : Int)) rfl (by kernel_rfl) (by kernel_rfl) (by kernel_rfl) (fun _ _ _ h => h) (Or.inl ⟨by rfl, ?_⟩) hHeld ?_
                  · intro w hSw; clear hSw; go_simp
                  simp only [Act.put, List.setIfInBounds_toArray, List.set_cons_succ, List.set_cons_zero]
                  refine wpAnyH_take (i := 5) (oi := { dst := some 175, op := Go.Op.move (Go.Operand.tmp 11), type := 73, pos := "quireref9.go:107", after := #[], guard := none }) (v := .slice lo ln lcap) rfl (by kernel_rfl) (by kernel_rfl) (by kernel_rfl) (fun _ _ _ h => h) (Or.inl ⟨by rfl, ?_⟩) hHeld ?_
                  · intro w hSw; clear hSw; go_simp
                  simp only [Act.put, List.setIfInBounds_toArray, List.set_cons_succ, List.set_cons_zero]
                  refine wpAnyH_take (i := 6) (oi := { dst := some 176, op := Go.Op.move (Go.Operand.tmp 12), type := 3, pos := "quireref9.go:107", after := #[], guard := none }) (v := .int .i64 (I : Int)) rfl (by kernel_rfl) (by kernel_rfl) (by kernel_rfl) (fun _ _ _ h => h) (Or.inl ⟨by rfl, ?_⟩) hHeld ?_
                  · intro w hSw; clear hSw; go_simp
                  simp only [Act.put, List.setIfInBounds_toArray, List.set_cons_succ, List.set_cons_zero]
                  refine wpAnyH_take (i := 7) (oi := { dst := some 177, op := Go.Op.move (Go.Operand.tmp 10), type := 3, pos := "quireref9.go:107", after := #[], guard := none }) (v := .int .i64 (nn : Int)) rfl (by kernel_rfl) (by kernel_rfl) (by kernel_rfl) (fun _ _ _ h => h) (Or.inl ⟨by rfl, ?_⟩) hHeld ?_
                  · intro w hSw; clear hSw; go_simp
                  simp only [Act.put, List.setIfInBounds_toArray, List.set_cons_succ, List.set_cons_zero]
                  refine wpAnyH_ready (rs := [8]) (by kernel_rfl) (by simp) ?_
                  refine (AllReadyH.cons (o := { dst := some 178, op := Go.Op.call { callee := Go.Callee.value (Go.Operand.func 62), args := #[Go.Operand.tmp 175, Go.Operand.tmp 176, Go.Operand.tmp 177], argTypes := #[73, 3, 3] }, type := 73, pos := "quireref9.go:107", after := #[{ on := 5, ground := Go.Ground.data }, { on := 6, ground := Go.Ground.data }, { on := 7, ground := Go.Ground.data }], guard := none }) rfl (fun K hK => ?_) AllReadyH.nil)
                  go_simp
                  refine HWk.out.mono ?_
                  rintro e X4 ⟨v4, rfl, n4⟩
                  obtain ⟨ao4, cap4, rfl, -⟩ := n4.sl.shape
                  have HT4 : Hid (Touch (fun _ => False) X2 X4) := H3.out.drew.trans n4.touch
                  have HE4 := HEnd.out _ _ HT4.out n4.sl
                  generalize (ints (withinL lf I nn)).length = l4 at *
                  obtain ⟨z8, c8, S4, S5⟩ := HFz.out _ HT4.out
                  have S6 := S5 (.slice ao4 l4 cap4)
                  have HE5 : Hid (RqAt (X4.setCell ⟨g, rt * 10 + 8, none⟩ (.slice ao4 l4 cap4)) b S2 ∧ Touch (fun x => x = b) w (X4.setCell ⟨g, rt * 10 + 8, none⟩ (.slice ao4 l4 cap4))) := HE4
                  clear n4 HE4 S5
                  refine hK.out _ _ S4 (fun hHeld => ?_)
                  clear hK K
                  try simp only [Act.put, List.setIfInBounds_toArray, List.set_cons_succ, List.set_cons_zero]
                  refine wpAnyH_take (i := 9) (oi := { dst := some 179, op := Go.Op.indexAddr 72 (Go.Operand.tmp 173) (Go.Operand.tmp 174), type := 0, pos := "quireref9.go:107", after := #[{ on := 3, ground := Go.Ground.data }, { on := 4, ground := Go.Ground.data }, { on := 0, ground := Go.Ground.phase }, { on := 1, ground := Go.Ground.phase }, { on := 2, ground := Go.Ground.phase }, { on := 3, ground := Go.Ground.phase }, { on := 4, ground := Go.Ground.phase }, { on := 5, ground := Go.Ground.phase }, { on := 6, ground := Go.Ground.phase }, { on := 7, ground := Go.Ground.phase }, { on := 8, ground := Go.Ground.phase }], guard := none }) (v := .pointer (some ⟨g, rt * 10, none⟩)) rfl (by kernel_rfl) (by kernel_rfl) (by kernel_rfl) (fun _ _ _ h => h) (Or.inl ⟨by rfl, ?_⟩) hHeld ?_
                  · intro w hSw; clear hSw; go_simp
                  simp only [Act.put, List.setIfInBounds_toArray, List.set_cons_succ, List.set_cons_zero]
                  refine wpAnyH_take (i := 10) (oi := { dst := some 180, op := Go.Op.fieldAddr 98 (Go.Operand.tmp 179) 3, type := 0, pos := "quireref9.go:107", after := #[{ on := 9, ground := Go.Ground.data }, { on := 0, ground := Go.Ground.phase }, { on := 1, ground := Go.Ground.phase }, { on := 2, ground := Go.Ground.phase }, { on := 3, ground := Go.Ground.phase }, { on := 4, ground := Go.Ground.phase }, { on := 5, ground := Go.Ground.phase }, { on := 6, ground := Go.Ground.phase }, { on := 7, ground := Go.Ground.phase }, { on := 8, ground := Go.Ground.phase }], guard := none }) (v := .pointer (some ⟨g, rt * 10 + 8, none⟩)) rfl (by kernel_rfl) (by kernel_rfl) (by kernel_rfl) (fun _ _ _ h => h) (Or.inl ⟨by rfl, ?_⟩) hHeld ?_
                  · intro w hSw; clear hSw; go_simp
                  simp only [Act.put, List.setIfInBounds_toArray, List.set_cons_succ, List.set_cons_zero]
                  refine wpAnyH_ready (rs := [11]) (by kernel_rfl) (by simp) ?_
                  refine (AllReadyH.cons (o := { dst := none, op := Go.Op.store 73 (Go.Operand.tmp 180) (Go.Operand.tmp 178), type := 0, pos := "quireref9.go:107", after := #[{ on := 10, ground := Go.Ground.data }, { on := 8, ground := Go.Ground.data }, { on := 8, ground := Go.Ground.chain }, { on := 0, ground := Go.Ground.phase }, { on := 1, ground := Go.Ground.phase }, { on := 2, ground := Go.Ground.phase }, { on := 3, ground := Go.Ground.phase }, { on := 4, ground := Go.Ground.phase }, { on := 5, ground := Go.Ground.phase }, { on := 6, ground := Go.Ground.phase }, { on := 7, ground := Go.Ground.phase }, { on := 8, ground := Go.Ground.phase }], guard := none }) rfl (fun K hK => ?_) AllReadyH.nil)
                  go_simp
                  refine hK.out _ _ S6 (fun hHeld => ?_)
                  clear hK K
                  try simp only [Act.put, List.setIfInBounds_toArray, List.set_cons_succ, List.set_cons_zero]
                  refine wpAnyH_done (by kernel_rfl) ?_ _
                  try simp only [List.getElem_toArray, List.getElem_cons_succ, List.getElem_cons_zero, List.setIfInBounds_toArray, List.set_cons_succ, List.set_cons_zero]
                  try go_wp2_with fail
                  go_meet
                  case rel => exact ⟨rfl, HE5.out⟩
            | false =>
              rw [if_neg (by simp)] at HW2
              obtain ⟨hsl, hso, hsm, hsk⟩ := HSl.out
              by_cases hl0 : 0 ≤ fl
              · skip
                obtain ⟨lt, rfl⟩ := Int.eq_ofNat_of_zero_le hl0
                have hll : lt < nn := by
                  have := hnn.out
                  omega
                obtain ⟨-, hk2, -, hk4⟩ := hsk lt hll
                rw [if_pos hl0, Int.toNat_natCast] at HW2
                obtain ⟨ao, cap, k0, kx⟩ := H2.out.1.nodes
                obtain ⟨g, rfl, ky⟩ := kx (by omega)
                have hgw : w.heap.size ≤ g := by
                  obtain ⟨-, -, -, -, g0, cap0, e0, h0⟩ := H2.out
                  rw [k0] at e0
                  simp only [Option.some.injEq, Value.slice.injEq, Addr.mk.injEq] at e0
                  omega
                obtain ⟨lv, k9, hv⟩ := (ky lt (by omega)).c9
                obtain ⟨lf, hlf⟩ : ∃ x, Hid (x = (s.nd lt).more) := ⟨_, Eq.refl _⟩
                rw [← hlf.out] at hk2 hk4 hv
                obtain ⟨lo, lcap, rfl, hvc⟩ := hv.nums
                have HWi : Hid (∀ W, Touch (fun _ => False) X2 W → Calls Tryz.prog 63 #[qP b, .slice lo lf.length lcap, .int .i64 (nn : Int)] W fun e w' => ∃ v', e = .returned v' ∧ NewJ W w' v' (ints (s.amongL lf nn))) := fun W t => qamong_any (H2.out.1.keep t) _ lf (hv.touch t) nn (by omega) (fun x hx => by have := hk2 x hx; omega) (by have := hnn.out; omega) (by omega) (by omega)
                have HEnd : Hid (∀ W v, Touch (fun _ => False) X2 W → SlJ W v (ints (s.amongL lf nn)) → RqAt (W.setCell ⟨g, lt * 10 + 9, none⟩ v) b S2 ∧ Touch (fun x => x = b) w (W.setCell ⟨g, lt * 10 + 9, none⟩ v)) := fun W v t hvv => by
                  have hW := H2.out.1.keep t
                  have hc : W.cell? ⟨b, 0, none⟩ = some (.slice (some ⟨g, 0, none⟩) s.l.length cap) := by
                    rw [World.cell?_of_block (t.block _ (World.block_lt_of_cell? _ _ k0) id)]; exact k0
                  refine ⟨?_, (H2.out.2.2.2.1.trans (t.mono fun _ _ e => e.elim)).setCell _ _ ?_⟩
                  · have h5 := hW.setKids lt (by omega) hc v _ hvv
                    rw [HW2.out]
                    have e : (s.l.modify lt fun n => ⟨n.u, n.par, n.left, n.lefts, s.amongL n.more nn⟩) = s.l.modify lt fun n => ⟨n.u, n.par, n.left, n.lefts, s.amongL lf nn⟩ := modify_same _ _ _ _ fun q hq => by
                      have eq : q = s.nd lt := by unfold RS.nd; rw [hq]; rfl
                      rw [eq, ← hlf.out]
                    rw [e]; exact h5
                  · intro hlt
                    exact absurd hlt (by show ¬ g < w.heap.size; omega)
                have HFz : Hid (∀ W, Touch (fun _ => False) X2 W → W.frozen? ⟨g, lt * 10 + 9, none⟩ = false ∧ W.cell? ⟨g, lt * 10 + 9, none⟩ = some (.slice lo lf.length lcap) ∧ W.cell? ⟨b, 0, none⟩ = some (.slice (some ⟨g, 0, none⟩) s.l.length cap) ∧ ∀ v, (W.setCell ⟨g, lt * 10 + 9, none⟩ v).cell? ⟨b, 0, none⟩ = some (.slice (some ⟨g, 0, none⟩) s.l.length cap)) := fun W t => by
                  have X : ∀ {p : Addr} {y : Value}, X2.cell? p = some y → W.cell? p = some y := fun {p y} hc => by
                    rw [World.cell?_of_block (t.block _ (World.block_lt_of_cell? _ _ hc) id)]; exact hc
                  have hbg : (⟨g, lt * 10 + 9, none⟩ : Addr) ≠ ⟨b, 0, none⟩ := fun e => by
                    simp only [Addr.mk.injEq] at e
                    have := HBb.out
                    omega
                  refine ⟨?_, X k9, X k0, fun v => by rw [World.cell?_setCell_other W _ _ _ hbg]; exact X k0⟩
                  exact (H2.out.1.keep t).freeN (by omega) (X k0) _
                have nl : (lt : Int) < (s.l.length : Int) := by omega
                have hT2 : Touch (fun _ => False) X2 X2.drew := (Touch.refl _ _).drew
                have HT2d : Hid (Touch (fun _ => False) X2 X2.drew) := hT2
                have HWk : Hid (Calls Tryz.prog 63 #[qP b, .slice lo lf.length lcap, .int .i64 (nn : Int)] X2.drew fun e w' => ∃ v', e = .returned v' ∧ NewJ X2.drew w' v' (ints (s.amongL lf nn))) := HWi.out _ hT2
                obtain ⟨-, -, S0, -⟩ := HFz.out _ hT2
                clear hk2 hk4 hv hvc hsk hsm hso kx ky hlf HSl HW2 HFr0 hnn hs hS2 hI h hl hol hgw hsl hfr hfl hT2 HWi k0
                generalize s.l.length = sl at *
                generalize lf.length = ln at *
                go_upto_region 26 with fail
                refine wp_region_held_drew (S := fun W : World => W.cell? ⟨b, 0, none⟩ = some (.slice (some ⟨g, 0, none⟩) sl cap)) (by kernel_rfl) S0 (fun hHeld => ?_)
                refine wpAnyH_take (i := 0) (oi := { dst := some 184, op := Go.Op.move (Go.Operand.tmp 0), type := 34, pos := "quireref9.go:109", after := #[], guard := none }) (v := qP b) rfl (by kernel_rfl) (by kernel_rfl) (by kernel_rfl) (fun _ _ _ h => h) (Or.inl ⟨by rfl, ?_⟩) hHeld ?_
                · intro w hSw; clear hSw; go_simp
                simp only [Act.put, List.setIfInBounds_toArray, List.set_cons_succ, List.set_cons_zero]
                refine wpAnyH_take (i := 1) (oi := { dst := some 185, op := Go.Op.nilCheck (Go.Operand.tmp 184), type := 0, pos := "quireref9.go:109", after := #[{ on := 0, ground := Go.Ground.data }], guard := none }) (v := .pointer (some ⟨b, 0, none⟩)) rfl (by kernel_rfl) (by kernel_rfl) (by kernel_rfl) (fun _ _ _ h => h) (Or.inl ⟨by rfl, ?_⟩) hHeld ?_
                · intro w hSw; clear hSw; go_simp
                simp only [Act.put, List.setIfInBounds_toArray, List.set_cons_succ, List.set_cons_zero]
                refine wpAnyH_take (i := 2) (oi := { dst := some 186, op := Go.Op.fieldAddr 75 (Go.Operand.tmp 185) 0, type := 0, pos := "quireref9.go:109", after := #[{ on := 1, ground := Go.Ground.data }], guard := none }) (v := .pointer (some ⟨b, 0, none⟩)) rfl (by kernel_rfl) (by kernel_rfl) (by kernel_rfl) (fun _ _ _ h => h) (Or.inl ⟨by rfl, ?_⟩) hHeld ?_
                · intro w hSw; clear hSw; go_simp
                simp only [Act.put, List.setIfInBounds_toArray, List.set_cons_succ, List.set_cons_zero]
                refine wpAnyH_take (i := 3) (oi := { dst := some 187, op := Go.Op.load 72 (Go.Operand.tmp 186), type := 72, pos := "quireref9.go:109", after := #[{ on := 2, ground := Go.Ground.data }], guard := none }) (v := .slice (some ⟨g, 0, none⟩) sl cap) rfl (by kernel_rfl) (by kernel_rfl) (by kernel_rfl) (fun _ _ _ h => h) (Or.inl ⟨by rfl, ?_⟩) hHeld ?_
                · intro w hSw; skip; go_simp
                simp only [Act.put, List.setIfInBounds_toArray, List.set_cons_succ, List.set_cons_zero]
                refine wpAnyH_take (i := 4) (oi := { dst := some 188, op := Go.Op.move (Go.Operand.tmp 6), type := 3, pos := "quireref9.go:109", after := #[], guard := none }) (v := .int .i64 (lt : Int)) rfl (by kernel_rfl) (by kernel_rfl) (by kernel_rfl) (fun _ _ _ h => h) (Or.inl ⟨by rfl, ?_⟩) hHeld ?_
                · intro w hSw; clear hSw; go_simp
                simp only [Act.put, List.setIfInBounds_toArray, List.set_cons_succ, List.set_cons_zero]
                refine wpAnyH_take (i := 5) (oi := { dst := some 189, op := Go.Op.move (Go.Operand.tmp 0), type := 34, pos := "quireref9.go:109", after := #[], guard := none }) (v := qP b) rfl (by kernel_rfl) (by kernel_rfl) (by kernel_rfl) (fun _ _ _ h => h) (Or.inl ⟨by rfl, ?_⟩) hHeld ?_
                · intro w hSw; clear hSw; go_simp
                simp only [Act.put, List.setIfInBounds_toArray, List.set_cons_succ, List.set_cons_zero]
                refine wpAnyH_take (i := 6) (oi := { dst := some 190, op := Go.Op.move (Go.Operand.tmp 0), type := 34, pos := "quireref9.go:109", after := #[], guard := none }) (v := qP b) rfl (by kernel_rfl) (by kernel_rfl) (by kernel_rfl) (fun _ _ _ h => h) (Or.inl ⟨by rfl, ?_⟩) hHeld ?_
                · intro w hSw; clear hSw; go_simp
                simp only [Act.put, List.setIfInBounds_toArray, List.set_cons_succ, List.set_cons_zero]
                refine wpAnyH_take (i := 7) (oi := { dst := some 191, op := Go.Op.nilCheck (Go.Operand.tmp 190), type := 0, pos := "quireref9.go:109", after := #[{ on := 6, ground := Go.Ground.data }], guard := none }) (v := .pointer (some ⟨b, 0, none⟩)) rfl (by kernel_rfl) (by kernel_rfl) (by kernel_rfl) (fun _ _ _ h => h) (Or.inl ⟨by rfl, ?_⟩) hHeld ?_
                · intro w hSw; clear hSw; go_simp
                simp only [Act.put, List.setIfInBounds_toArray, List.set_cons_succ, List.set_cons_zero]
                refine wpAnyH_take (i := 8) (oi := { dst := some 192, op := Go.Op.fieldAddr 75 (Go.Operand.tmp 191) 0, type := 0, pos := "quireref9.go:109", after := #[{ on := 7, ground := Go.Ground.data }], guard := none }) (v := .pointer (some ⟨b, 0, none⟩)) rfl (by kernel_rfl) (by kernel_rfl) (by kernel_rfl) (fun _ _ _ h => h) (Or.inl ⟨by rfl, ?_⟩) hHeld ?_
                · intro w hSw; clear hSw; go_simp
                simp only [Act.put, List.setIfInBounds_toArray, List.set_cons_succ, List.set_cons_zero]
                refine wpAnyH_take (i := 9) (oi := { dst := some 193, op := Go.Op.load 72 (Go.Operand.tmp 192), type := 72, pos := "quireref9.go:109", after := #[{ on := 8, ground := Go.Ground.data }], guard := none }) (v := .slice (some ⟨g, 0, none⟩) sl cap) rfl (by kernel_rfl) (by kernel_rfl) (by kernel_rfl) (fun _ _ _ h => h) (Or.inl ⟨by rfl, ?_⟩) hHeld ?_
                · intro w hSw; skip; go_simp
                simp only [Act.put, List.setIfInBounds_toArray, List.set_cons_succ, List.set_cons_zero]
                refine wpAnyH_take (i := 10) (oi := { dst := some 194, op := Go.Op.move (Go.Operand.tmp 6), type := 3, pos := "quireref9.go:109", after := #[], guard := none }) (v := .int .i64 (lt : Int)) rfl (by kernel_rfl) (by kernel_rfl) (by kernel_rfl) (fun _ _ _ h => h) (Or.inl ⟨by rfl, ?_⟩) hHeld ?_
                · intro w hSw; clear hSw; go_simp
                simp only [Act.put, List.setIfInBounds_toArray, List.set_cons_succ, List.set_cons_zero]
                refine wpAnyH_take (i := 11) (oi := { dst := some 195, op := Go.Op.indexAddr 72 (Go.Operand.tmp 193) (Go.Operand.tmp 194), type := 0, pos := "quireref9.go:109", after := #[{ on := 9, ground := Go.Ground.data }, { on := 10, ground := Go.Ground.data }], guard := none }) (v := .pointer (some ⟨g, lt * 10, none⟩)) rfl (by kernel_rfl) (by kernel_rfl) (by kernel_rfl) (fun _ _ _ h => h) (Or.inl ⟨by rfl, ?_⟩) hHeld ?_
                · intro w hSw; clear hSw; go_simp
                simp only [Act.put, List.setIfInBounds_toArray, List.set_cons_succ, List.set_cons_zero]
                refine wpAnyH_take (i := 12) (oi := { dst := some 196, op := Go.Op.fieldAddr 98 (Go.Operand.tmp 195) 4, type := 0, pos := "quireref9.go:109", after := #[{ on := 11, ground := Go.Ground.data }], guard := none }) (v := .pointer (some ⟨g, lt * 10 + 9, none⟩)) rfl (by kernel_rfl) (by kernel_rfl) (by kernel_rfl) (fun _ _ _ h => h) (Or.inl ⟨by rfl, ?_⟩) hHeld ?_
                · intro w hSw; clear hSw; go_simp
                simp only [Act.put, List.setIfInBounds_toArray, List.set_cons_succ, List.set_cons_zero]
                refine wpAnyH_take (i := 14) (oi := { dst := some 198, op := Go.Op.move (Go.Operand.tmp 10), type := 3, pos := "quireref9.go:109", after := #[], guard := none }) (v := .int .i64 (nn : Int)) rfl (by kernel_rfl) (by kernel_rfl) (by kernel_rfl) (fun _ _ _ h => h) (Or.inl ⟨by rfl, ?_⟩) hHeld ?_
                · intro w hSw; clear hSw; go_simp
                simp only [Act.put, List.setIfInBounds_toArray, List.set_cons_succ, List.set_cons_zero]
                refine wpAnyH_ready (rs := [13]) (by kernel_rfl) (by simp) ?_
                refine (AllReadyH.cons (o := { dst := some 197, op := Go.Op.load 73 (Go.Operand.tmp 196), type := 73, pos := "quireref9.go:109", after := #[{ on := 12, ground := Go.Ground.data }], guard := none }) rfl (fun K hK => ?_) AllReadyH.nil)
                go_simp
                refine hK.out _ _ S0 (fun hHeld => ?_)
                clear hK K
                try simp only [Act.put, List.setIfInBounds_toArray, List.set_cons_succ, List.set_cons_zero]
                refine wpAnyH_ready (rs := [15]) (by kernel_rfl) (by simp) ?_
                refine (AllReadyH.cons (o := { dst := some 199, op := Go.Op.call { callee := Go.Callee.value (Go.Operand.func 63), args := #[Go.Operand.tmp 189, Go.Operand.tmp 197, Go.Operand.tmp 198], argTypes := #[34, 73, 3] }, type := 73, pos := "quireref9.go:109", after := #[{ on := 5, ground := Go.Ground.data }, { on := 13, ground := Go.Ground.data }, { on := 14, ground := Go.Ground.data }], guard := none }) rfl (fun K hK => ?_) AllReadyH.nil)
                go_simp
                refine HWk.out.mono ?_
                rintro e X4 ⟨v4, rfl, n4⟩
                obtain ⟨ao4, cap4, rfl, -⟩ := n4.sl.shape
                have HT4 : Hid (Touch (fun _ => False) X2 X4) := HT2d.out.trans n4.touch
                have HE4 := HEnd.out _ _ HT4.out n4.sl
                generalize (ints (s.amongL lf nn)).length = l4 at *
                obtain ⟨z8, c8, S4, S5⟩ := HFz.out _ HT4.out
                have S6 := S5 (.slice ao4 l4 cap4)
                have HE5 : Hid (RqAt (X4.setCell ⟨g, lt * 10 + 9, none⟩ (.slice ao4 l4 cap4)) b S2 ∧ Touch (fun x => x = b) w (X4.setCell ⟨g, lt * 10 + 9, none⟩ (.slice ao4 l4 cap4))) := HE4
                clear n4 HE4 S5
                refine hK.out _ _ S4 (fun hHeld => ?_)
                clear hK K
                try simp only [Act.put, List.setIfInBounds_toArray, List.set_cons_succ, List.set_cons_zero]
                refine wpAnyH_take (i := 16) (oi := { dst := some 200, op := Go.Op.indexAddr 72 (Go.Operand.tmp 187) (Go.Operand.tmp 188), type := 0, pos := "quireref9.go:109", after := #[{ on := 3, ground := Go.Ground.data }, { on := 4, ground := Go.Ground.data }, { on := 0, ground := Go.Ground.phase }, { on := 1, ground := Go.Ground.phase }, { on := 2, ground := Go.Ground.phase }, { on := 3, ground := Go.Ground.phase }, { on := 4, ground := Go.Ground.phase }, { on := 5, ground := Go.Ground.phase }, { on := 6, ground := Go.Ground.phase }, { on := 7, ground := Go.Ground.phase }, { on := 8, ground := Go.Ground.phase }, { on := 9, ground := Go.Ground.phase }, { on := 10, ground := Go.Ground.phase }, { on := 11, ground := Go.Ground.phase }, { on := 12, ground := Go.Ground.phase }, { on := 13, ground := Go.Ground.phase }, { on := 14, ground := Go.Ground.phase }, { on := 15, ground := Go.Ground.phase }], guard := none }) (v := .pointer (some ⟨g, lt * 10, none⟩)) rfl (by kernel_rfl) (by kernel_rfl) (by kernel_rfl) (fun _ _ _ h => h) (Or.inl ⟨by rfl, ?_⟩) hHeld ?_
                · intro w hSw; clear hSw; go_simp
                simp only [Act.put, List.setIfInBounds_toArray, List.set_cons_succ, List.set_cons_zero]
                refine wpAnyH_take (i := 17) (oi := { dst := some 201, op := Go.Op.fieldAddr 98 (Go.Operand.tmp 200) 4, type := 0, pos := "quireref9.go:109", after := #[{ on := 16, ground := Go.Ground.data }, { on := 0, ground := Go.Ground.phase }, { on := 1, ground := Go.Ground.phase }, { on := 2, ground := Go.Ground.phase }, { on := 3, ground := Go.Ground.phase }, { on := 4, ground := Go.Ground.phase }, { on := 5, ground := Go.Ground.phase }, { on := 6, ground := Go.Ground.phase }, { on := 7, ground := Go.Ground.phase }, { on := 8, ground := Go.Ground.phase }, { on := 9, ground := Go.Ground.phase }, { on := 10, ground := Go.Ground.phase }, { on := 11, ground := Go.Ground.phase }, { on := 12, ground := Go.Ground.phase }, { on := 13, ground := Go.Ground.phase }, { on := 14, ground := Go.Ground.phase }, { on := 15, ground := Go.Ground.phase }], guard := none }) (v := .pointer (some ⟨g, lt * 10 + 9, none⟩)) rfl (by kernel_rfl) (by kernel_rfl) (by kernel_rfl) (fun _ _ _ h => h) (Or.inl ⟨by rfl, ?_⟩) hHeld ?_
                · intro w hSw; clear hSw; go_simp
                simp only [Act.put, List.setIfInBounds_toArray, List.set_cons_succ, List.set_cons_zero]
                refine wpAnyH_ready (rs := [18]) (by kernel_rfl) (by simp) ?_
                refine (AllReadyH.cons (o := { dst := none, op := Go.Op.store 73 (Go.Operand.tmp 201) (Go.Operand.tmp 199), type := 0, pos := "quireref9.go:109", after := #[{ on := 17, ground := Go.Ground.data }, { on := 15, ground := Go.Ground.data }, { on := 15, ground := Go.Ground.chain }, { on := 0, ground := Go.Ground.phase }, { on := 1, ground := Go.Ground.phase }, { on := 2, ground := Go.Ground.phase }, { on := 3, ground := Go.Ground.phase }, { on := 4, ground := Go.Ground.phase }, { on := 5, ground := Go.Ground.phase }, { on := 6, ground := Go.Ground.phase }, { on := 7, ground := Go.Ground.phase }, { on := 8, ground := Go.Ground.phase }, { on := 9, ground := Go.Ground.phase }, { on := 10, ground := Go.Ground.phase }, { on := 11, ground := Go.Ground.phase }, { on := 12, ground := Go.Ground.phase }, { on := 13, ground := Go.Ground.phase }, { on := 14, ground := Go.Ground.phase }, { on := 15, ground := Go.Ground.phase }], guard := none }) rfl (fun K hK => ?_) AllReadyH.nil)
                go_simp
                refine hK.out _ _ S6 (fun hHeld => ?_)
                clear hK K
                try simp only [Act.put, List.setIfInBounds_toArray, List.set_cons_succ, List.set_cons_zero]
                refine wpAnyH_done (by kernel_rfl) ?_ _
                try simp only [List.getElem_toArray, List.getElem_cons_succ, List.getElem_cons_zero, List.setIfInBounds_toArray, List.set_cons_succ, List.set_cons_zero]
                try go_wp2_with fail
                go_meet
                case rel => exact ⟨rfl, HE5.out⟩
              · skip
                rw [if_neg hl0] at HW2
                obtain ⟨vm, k1, hv⟩ := H2.out.1.more
                obtain ⟨lo, lcap, rfl, -⟩ := hv.nums
                have HWi : Hid (Calls Tryz.prog 63 #[qP b, .slice lo s.more.length lcap, .int .i64 (nn : Int)] X2 fun e w' => ∃ v', e = .returned v' ∧ NewJ X2 w' v' (ints (s.amongL s.more nn))) := qamong_any H2.out.1 _ s.more hv nn (by omega) (fun x hx => by have := hsm.1 x hx; omega) (by have := hnn.out; omega) (by omega) (by omega)
                have HEnd : Hid (∀ W v, Touch (fun _ => False) X2 W → SlJ W v (ints (s.amongL s.more nn)) → RqAt (W.setCell ⟨b, 1, none⟩ v) b S2 ∧ Touch (fun x => x = b) w (W.setCell ⟨b, 1, none⟩ v)) := fun W v t hvv => by
                  have hW := H2.out.1.keep t
                  refine ⟨?_, (H2.out.2.2.2.1.trans (t.mono fun _ _ e => e.elim)).setCell _ _ fun _ => rfl⟩
                  rw [HW2.out]
                  exact hW.setMore v _ hvv
                have HFz : Hid (∀ W, Touch (fun _ => False) X2 W → W.frozen? ⟨b, 1, none⟩ = false ∧ ∃ v, W.cell? ⟨b, 1, none⟩ = some v) := fun W t => by
                  obtain ⟨cb, hcb⟩ := (H2.out.1.keep t).blk
                  obtain ⟨vo, o1, -⟩ := (H2.out.1.keep t).more
                  exact ⟨free_of_block hcb, vo, o1⟩
                clear hv hsk hsm hso HSl HW2 HFr0 hnn hs hS2 hI h hl hol hsl hfr hfl
                generalize s.more.length = ln at *
                go_wp2_with fail
                refine HWi.out.mono ?_
                rintro e X4 ⟨v4, rfl, n4⟩
                obtain ⟨ao4, cap4, rfl, -⟩ := n4.sl.shape
                have HE4 := HEnd.out _ _ n4.touch n4.sl
                obtain ⟨z1, v1, c1⟩ := HFz.out _ n4.touch
                clear n4
                generalize (ints (s.amongL s.more nn)).length = l4 at *
                have HE5 : Hid (RqAt (X4.setCell ⟨b, 1, none⟩ (.slice ao4 l4 cap4)) b S2 ∧ Touch (fun x => x = b) w (X4.setCell ⟨b, 1, none⟩ (.slice ao4 l4 cap4))) := HE4
                clear HE4 HEnd HFz HWi
                go_wp2_with fail
                go_meet
                case rel => exact ⟨rfl, HE5.out⟩
          case rest =>
            obtain ⟨rfl, H3⟩ := hcut
            obtain ⟨X3, hwf⟩ : ∃ we, we = wc := ⟨_, rfl⟩
            subst hwf
            obtain ⟨vm, m1, m2⟩ := H3.out.1.more
            have HWk : Hid (Calls Tryz.prog 64 #[qP b, vm, .slice none 0 0] X3 fun e w' => ∃ v', e = .returned v' ∧ NewJ X3 w' v' (ints (S2.walk S2.l.length S2.more))) := by
              have := qwalk_any H3.out.1 S2.l.length X3 vm (.slice none 0 0) S2.more [] m2 (NewJ.nil _ _ (Touch.refl _ _)) HDeep.out.1 (by have := HDeep.out.2; simp; omega)
              rw [List.nil_append] at this
              exact this
            obtain ⟨cb, hcb⟩ := H3.out.1.blk
            have HEnd : Hid (∀ W v, NewJ X3 W v (ints (S2.walk S2.l.length S2.more)) → RqAt (W.setCell ⟨b, 2, none⟩ v) b (r.insert ⟨uc, uk, ulc, ulk, urc, urk⟩) ∧ Touch (fun x => x = b) w (W.setCell ⟨b, 2, none⟩ v)) := fun W v hv => by
              refine ⟨?_, (H3.out.2.trans (hv.touch.mono fun _ _ e => e.elim)).setCell _ _ fun _ => rfl⟩
              rw [HFin.out]
              exact (H3.out.1.keep hv.touch).setOrd v _ hv.sl
            have HFz : Hid (∀ W, Touch (fun _ => False) X3 W → W.frozen? ⟨b, 2, none⟩ = false ∧ ∃ v, W.cell? ⟨b, 2, none⟩ = some v) := fun W t => by
              obtain ⟨cb, hcb⟩ := (H3.out.1.keep t).blk
              obtain ⟨vo, o1, -⟩ := (H3.out.1.keep t).ord
              exact ⟨free_of_block hcb, vo, o1⟩
            clear hcb m2 HDeep HFin HSl HW2 hS2 hs hisl
            go_wp2_with fail
            refine HWk.out.mono ?_
            rintro e X4 ⟨v4, rfl, n4⟩
            obtain ⟨ao4, cap4, rfl, -⟩ := n4.sl.shape
            obtain ⟨z2, v2, c2⟩ := HFz.out _ n4.touch
            have HE4 := HEnd.out _ _ n4
            have HE5 : Hid (RqAt (X4.setCell ⟨b, 2, none⟩ (.slice ao4 (ints (S2.walk S2.l.length S2.more)).length cap4)) b (r.insert ⟨uc, uk, ulc, ulk, urc, urk⟩) ∧ Touch (fun x => x = b) w (X4.setCell ⟨b, 2, none⟩ (.slice ao4 (ints (S2.walk S2.l.length S2.more)).length cap4))) := HE4
            clear n4 HE4 HEnd HFz HWk
            generalize (ints (S2.walk S2.l.length S2.more)).length = l4 at *
            go_wp2_with fail
            go_ret
            exact ⟨congrArg (fun x => Ending.returned (.bool x)) HX.out.symm, HE5.out⟩
end Go.Proofs.YtdnhoicfolkbnaaGreat
