/- A sequence in memory is read. -/
import Derived.Test.YtnilikomoapcaaaGreatPart20
import Derived.Test.YtnilikomoapcaaaGreatPart21
import Derived.Test.YtnilikomoapcaaaGreatMkAe
import Derived.Test.YtnilikomoapcaaaGreatMkC
import Derived.Test.YtnilikomoapcaaaGreatPart22
import Derived.Deep.MidRow
namespace Go.Proofs.YtnilikomoapcaaaGreat
open Go.RowKit
set_option linter.unusedVariables false
set_option linter.unusedSimpArgs false

theorem find_bounds {S : SS} (h : Inv S) {c k : Int} (hc : 0 ≤ c) (hk : 0 ≤ k) : -1 ≤ S.find c k ∧ S.find c k < (S.units.length : Int) := by
  by_cases e : S.find c k = -1
  · omega
  · obtain ⟨m, hm, e2, -, -⟩ := h.units_find hc hk e
    omega
theorem Sq1.rd {w W : World} {pa : Nat} {A : Bk} {S : SS} (a : Sq1 w W pa A S) (hn : S.units.length ≤ 1000000) : SeqRd W pa S :=
  ⟨fun W' t => (a.touch t).len, fun W' c' k' t h1 h2 h3 => (a.touch t).find c' k' h1 h2 h3, hn, fun c' k' h1 h2 => find_bounds a.inv h1 h2⟩
/-- A sequence is read wherever its blocks lie as they lay. -/
theorem Sq1.rdR {w W wr : World} {pa : Nat} {A : Bk} {S : SS} {R : Nat → Prop} (a : Sq1 w W pa A S) (hn : S.units.length ≤ 1000000) (hR : ∀ k, A.has k → R k) (t : Touch (fun k => ¬ R k) W wr) : SeqRd wr pa S :=
  Sq1.rd (w := w) (A := A) ⟨a.mem.keep t fun k hk h => h (hR k hk), a.at_, a.new, a.inv⟩ hn
end Go.Proofs.YtnilikomoapcaaaGreat

/- Package marks: All of one mark. -/
namespace Go.Proofs.YtnilikomoapcaaaGreat
open Go.RowKit Go.Maps
set_option linter.unusedVariables false
set_option linter.unusedSimpArgs false

theorem rowX_one {W : World} {v : Value} {x : Spn} (h : W.ownsRow 0 88 24 v [x].length (cellsX [x])) : ∃ gv cap, v = .slice (some ⟨gv, 0, none⟩) 1 cap ∧ W.rangeAt gv 0 x.vals.toList := by
  rcases h.2 with ⟨e, h0⟩ | ⟨g, cap, cur, e, hb, hg, q1, q2, q3, q4⟩
  · simp at h0
  · refine ⟨g, cap, e, fun i u hu => ?_⟩
    rw [cell_of_block hg]
    have h1 := cellsX_at [x] 0 (by simp) i u hu
    rw [← q4, List.getElem?_take] at h1
    split at h1
    · rw [← Array.getElem?_toList]; simpa using h1
    · cases h1
theorem gap_bounds {S : SS} (h : Inv S) {c k : Int} (hc : 0 ≤ c) (hk : 0 ≤ k) (af : Bool) : 0 ≤ (gapM S c k af).1 ∧ (gapM S c k af).1 ≤ (S.units.length : Int) := by
  have := find_bounds h hc hk
  unfold gapM
  split
  · cases af <;> simp
  · split
    · simp
    · cases af <;> simp <;> omega
theorem over_bounds {S : SS} (h : Inv S) {o : O} (hf : o.fits) : 0 ≤ (overM S o).1 ∧ (overM S o).2 ≤ (S.units.length : Int) := by
  have h1 := gap_bounds h (c := o.fc) (k := o.fk) hf.fc.1 hf.fk.1 o.fa
  have h2 := gap_bounds h (c := o.tc) (k := o.tk) hf.tc.1 hf.tk.1 o.ta
  unfold overM
  split
  · exact ⟨h1.1, h2.2⟩
  · simp
theorem one_key {ks : List Key} {y : Key} (h1 : ∀ k, k ∈ ks ↔ k = y) (h2 : ks.Pairwise (fun a b => bytesBefore a b = true)) : ks = [y] := by
  cases ks with
  | nil => exact absurd ((h1 y).2 rfl) (by simp)
  | cons a r =>
    have ha : a = y := (h1 a).1 (by simp)
    cases r with
    | nil => rw [ha]
    | cons b r' =>
      have hb : b = y := (h1 b).1 (by simp)
      have := (List.pairwise_cons.1 h2).1 b (by simp)
      rw [ha, hb] at this
      exact absurd rfl (before_ne this)
/-- What one mark is over, as a span. -/
def oneS (S : SS) (o : O) : Spn := ⟨(overM S o).1, (overM S o).2, o⟩
theorem allOne_any {w0 w : World} {p g cap : Nat} {A : Bk} {S : SS} {o : O} (a : Sq1 w0 w p A S) (hn : S.units.length ≤ 1000000) (hc1 : 1 ≤ cap) (hc2 : cap ≤ maxLen) (hg : g < w.heap.size) (ho : w.rangeAt g 0 o.vals.toList) (hf : o.fits) (hky : o.ky.size ≤ maxLen) (hk : o.kind = 3) :
    Calls Tryz.prog 12 #[.pointer (some ⟨p, 0, none⟩), .slice (some ⟨g, 0, none⟩) 1 cap] w fun e w' => ∃ go M vs, e = .returned (.slice (some ⟨go, 0, none⟩) S.units.length S.units.length) ∧ OutM w w' go S.units.length M vs ∧ ∀ i, i < S.units.length → M i = sh1 (oneS S o) i := by
  have hob := over_bounds a.inv hf
  have hbk : ∀ k x, x ∈ byK (spansM S [o]) k → x = oneS S o ∧ x.f < x.t ∧ byK (spansM S [o]) k = [x] := fun k x hx => by
    have hx1 := (List.mem_filter.1 hx).1
    have hx2 := (List.mem_filter.1 hx).2
    unfold spansM at hx1
    rw [List.filterMap_cons] at hx1
    unfold byK spansM
    rw [List.filterMap_cons]
    cases e : spanM S o with
    | none => rw [e] at hx1; simp at hx1
    | some y =>
      rw [e] at hx1
      simp at hx1
      subst hx1
      have e2 := e
      unfold spanM at e2
      split at e2
      · rename_i hh
        cases e2
        refine ⟨rfl, hh.2, ?_⟩
        simp only [List.filterMap_nil, List.filter_cons, hx2, if_true, List.filter_nil]
      · cases e2
  have := marksAll_any (w := w) (p := p) (g := g) (q := 0) (cap := cap) (S := S) (l := [o]) (R := fun k => A.has k ∨ k = g)
    (fun k hk => hk.elim (fun h => a.mem.lt h) fun e => e ▸ hg) (fun wr t => a.rdR hn (fun k h => .inl h) t) (.inr rfl) hc1 hc2
    (fun i h => by
      have : i = 0 := by simpa using h
      subst this
      simpa using ho) (fun x hx => by simp at hx; rw [hx]; exact hf) (fun x hx => by simp at hx; rw [hx]; exact hky) (by simp)
    (byK (spansM S [o])) (fun k m hm => by
      obtain ⟨h1, h2, h3⟩ := hbk k m hm
      rw [h1] at h2 ⊢
      exact ⟨hob.1, by omega, hob.2⟩) (fun k => by
      cases e : byK (spansM S [o]) k with
      | nil => simp
      | cons x r =>
        have := (hbk k x (by rw [e]; simp)).2.2
        rw [e] at this
        rw [this]
        simp) (fun k hk W v hv => by
      cases e : byK (spansM S [o]) k with
      | nil => exact absurd e hk
      | cons x r =>
        obtain ⟨h1, h2, h3⟩ := hbk k x (by rw [e]; simp)
        rw [h3] at hv
        rw [← e, h3]
        obtain ⟨gv, cap', rfl, hr⟩ := rowX_one hv
        exact wonOne_any hr h2)
  refine this.mono ?_
  rintro e w' ⟨go, M, vs, ks, rfl, hO, hks, hpw, hM⟩
  refine ⟨go, M, vs, rfl, hO, fun i hi => ?_⟩
  rw [hM i hi]
  by_cases hlt : (overM S o).1 < (overM S o).2
  · have hsp : spansM S [o] = [oneS S o] := by
      unfold spansM spanM
      simp [List.filterMap_cons, hk, hlt, oneS]
    have hk1 : ∀ k, k ∈ ks ↔ k = o.ky.data.toList := fun k => by
      rw [hks k, hsp]
      unfold byK
      simp only [List.filter_cons, List.filter_nil, oneS]
      by_cases e : o.ky.data.toList = k
      · simp [e]
      · have e2 : ¬ k = o.ky.data.toList := fun q => e q.symm
        simp [e, e2]
    rw [one_key hk1 hpw, hsp]
    unfold allF shM byK
    simp [oneS]
  · have hsp : spansM S [o] = [] := by
      unfold spansM spanM
      simp [List.filterMap_cons, hlt]
    have hk0 : ks = [] := by
      cases ks with
      | nil => rfl
      | cons k r =>
        have := (hks k).1 (by simp)
        rw [hsp] at this
        exact absurd rfl this
    rw [hk0]
    unfold sh1 oneS
    rw [if_neg]
    · rfl
    · simp only
      omega
end Go.Proofs.YtnilikomoapcaaaGreat

/- Package seq: Run on a sequence side by side with others. -/
namespace Go.Proofs.YtnilikomoapcaaaGreat
open Go.RowKit
set_option linter.unusedVariables false
set_option linter.unusedSimpArgs false
set_option maxRecDepth 100000

theorem run_low {S : SS} {u : Un} {n : Int} (hn : n < 1) : S.may u n = false ∧ S.run u n = S := by
  have : S.may u n = false := by
    cases hm : S.may u n with
    | false => rfl
    | true => have := (may_iff.1 hm).2.1; omega
  exact ⟨this, by unfold SS.run; rw [this]; rfl⟩
theorem Inv.runN {S : SS} (h : Inv S) {u : Un} (hu : u.ok) (n : Int) (hn : n ≤ 1000) {k : Nat} (hz : Size S k) (hk : k ≤ 100000) : Inv (S.run u n) ∧ Size (S.run u n) (k + n.toNat) := by
  by_cases h1 : n < 1
  · rw [(run_low h1).2]; exact ⟨h, hz.mono (by omega)⟩
  · have a := hz.tot
    have b := hz.pcs
    have c := hz.runs
    obtain ⟨r1, r2, r3, r4⟩ := h.runI (u := u) (n := n) hu (fun _ => by omega) (by omega) (by omega)
    refine ⟨r1, ?_, by omega, by omega⟩
    rw [r2]
    split <;> omega
theorem Sq1.runN {w0 w : World} {p : Nat} {B : Bk} {S : SS} (h : Sq1 w0 w p B S) (u : Un) (hu : u.ok) (n : Int) (hn : -1000 ≤ n ∧ n ≤ 1000) {k : Nat} (hz : Size S k) (hk : k ≤ 100000) :
    Calls Tryz.prog 9 #[.pointer (some ⟨p, 0, none⟩), .agg #[.int .u64 u.c, .int .u64 u.k, .int .u64 u.lc, .int .u64 u.lk, .int .u64 u.rc, .int .u64 u.rk], .int .i64 n] w fun e w' => e = .returned (.bool (S.may u n)) ∧ ∃ B', Sq1 w0 w' p B' (S.run u n) ∧ (∀ x, B'.has x → B.has x ∨ w.heap.size ≤ x) ∧ Touch B.has w w' := by
  have hp := h.at_
  subst hp
  refine (h.mem.run h.inv u hu n 1000 (by omega) (by omega) (by omega) (hz.room (by omega) 1000 (by omega))).mono ?_
  rintro e w' ⟨rfl, B', a, b, c, d⟩
  refine ⟨rfl, B', ⟨a, b, fun k hk => ?_, (h.inv.runN hu n hn.2 hz hk).1⟩, c, d⟩
  rcases c k hk with e | e
  · exact h.new k e
  · obtain ⟨c', hc⟩ := h.mem.blk
    have h1 := lt_of_heap hc
    have h2 := h.new B.b (.inl rfl)
    omega
end Go.Proofs.YtnilikomoapcaaaGreat

/- quirelaw11.mark. -/
namespace Go.Proofs.YtnilikomoapcaaaGreat
open Go.RowKit
set_option linter.unusedVariables false
set_option linter.unusedSimpArgs false
set_option maxRecDepth 100000

/-- An operation as mark makes it. -/
abbrev markK (ck st : Int) (ky : ByteArray) (n fc fk : Int) (fa : Bool) (tc tk : Int) (ta : Bool) : O := ⟨5, ck, 3, st, 0, 0, 0, 0, ⟨#[]⟩, 2, n, 0, ⟨#[]⟩, ky, 0, 0, fc, fk, fa, tc, tk, ta⟩
theorem anO_cells {W : World} {m : Nat} {c k : Int} {f : Bool} (h : W.heap[m]? = some (anO c k f)) : W.cell? ⟨m, 0, none⟩ = some (.int .u64 c) ∧ W.cell? ⟨m, 1, none⟩ = some (.int .u64 k) ∧ W.cell? ⟨m, 2, none⟩ = some (.bool f) :=
  ⟨by rw [cell_of_block h]; rfl, by rw [cell_of_block h]; rfl, by rw [cell_of_block h]; rfl⟩
set_option maxHeartbeats 4000000 in
theorem mark_any (ck st : Int) (ky : ByteArray) (n fc fk : Int) (fa : Bool) (tc tk : Int) (ta : Bool) (w : World) :
    Calls Tryz.prog 10 #[.int .u64 ck, .int .u64 st, .string ky, .int .i64 n, .agg #[.int .u64 fc, .int .u64 fk, .bool fa], .agg #[.int .u64 tc, .int .u64 tk, .bool ta]] w fun e w' => e = .returned (markK ck st ky n fc fk fa tc tk ta).val ∧ Touch (fun _ => False) w w' := by
  obtain ⟨E, hE⟩ : ∃ E, Hid (E = ((w.alloc (anO fc fk fa)).alloc (anO tc tk ta)).alloc zeroOp) := ⟨_, Eq.refl _⟩
  have HTE : Hid (Touch (fun _ => False) w E) := by rw [hE.out]; exact (((Touch.refl _ _).alloc _).alloc _).alloc _
  have e1 : E.heap[w.heap.size]? = some (anO fc fk fa) := by
    rw [hE.out]
    exact heap_keep (((Touch.refl _ _).alloc _).alloc _) (heap_alloc_new _ _)
  have e2 : E.heap[w.heap.size + 1]? = some (anO tc tk ta) := by
    have := heap_alloc_new (w.alloc (anO fc fk fa)) (anO tc tk ta)
    rw [show (w.alloc (anO fc fk fa)).heap.size = w.heap.size + 1 from Array.size_push _] at this
    rw [hE.out]
    exact heap_keep ((Touch.refl _ _).alloc _) this
  have HE3 : Hid (E.heap[w.heap.size + 1 + 1]? = some zeroOp) := by
    have := heap_alloc_new ((w.alloc (anO fc fk fa)).alloc (anO tc tk ta)) zeroOp
    rw [show ((w.alloc (anO fc fk fa)).alloc (anO tc tk ta)).heap.size = w.heap.size + 1 + 1 from by simp] at this
    rw [hE.out]
    exact this
  obtain ⟨a0, a1, a2⟩ := anO_cells e1
  obtain ⟨b0, b1, b2⟩ := anO_cells e2
  clear e1 e2
  obtain ⟨W2, hW2⟩ : ∃ W2, Hid (W2 = E.setCells (w.heap.size + 1 + 1) 0 (markK ck st ky n fc fk fa tc tk ta).vals.toList) := ⟨_, Eq.refl _⟩
  have HW2 : Hid (Touch (fun _ => False) w W2 ∧ W2.heap[w.heap.size + 1 + 1]? = some (opO (markK ck st ky n fc fk fa tc tk ta))) := by
    rw [hW2.out]
    refine ⟨HTE.out.stored (by omega) 0 _, ?_⟩
    rw [cells_storedS HE3.out]
    kernel_rfl
  go_enter Tryz.func10, Tryz.ntmps10
  go_upto_region 1 with fail
  rw [← hE.out]
  clear hE
  refine wp_region_lit ?_
  iterate 9 (refine wpList_plain rfl fun K hK => ?_; go_simp; refine hK _ _ ?_; clear hK K)
  refine wpList_store_mid rfl 39 (.tmp 12) (.tmp 21) rfl (w.heap.size + 1 + 1) 0 (markK ck st ky n fc fk fa tc tk ta).vals rfl rfl (there_ofS HE3.out 0 22 (by decide)) (by kernel_rfl) (by kernel_rfl) ?_
  simp only [Act.put]
  rw [← hW2.out]
  clear hW2 HE3 a0 a1 a2 b0 b1 b2
  have hLd := run_loadVar_mid (P := Tryz.prog) W2 (w.heap.size + 1 + 1) 0 39 (markK ck st ky n fc fk fa tc tk ta).vals.toList _ (rangeAt_ofS HW2.out.2) Tryz.underlying39 rfl (by kernel_rfl)
  go_wp2_with fail
  refine bodyPost_ret (v := (markK ck st ky n fc fk fa tc tk ta).val) (by simp [results, Tryz.results10, asAddr, hLd]) rfl ?_
  exact ⟨rfl, HW2.out.1⟩
end Go.Proofs.YtnilikomoapcaaaGreat
