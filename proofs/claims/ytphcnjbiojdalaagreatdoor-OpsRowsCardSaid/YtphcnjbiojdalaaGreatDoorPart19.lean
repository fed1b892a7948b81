/- More of rows of texts: their order, their parts, their pieces. -/
import Derived.Test.YtphcnjbiojdalaaGreatDoorJoinM
import Derived.Test.YtphcnjbiojdalaaGreatDoorPart17
import Derived.Test.YtphcnjbiojdalaaGreatDoorPartO
import Derived.Test.YtphcnjbiojdalaaGreatDoorPieceO
import Derived.Test.YtphcnjbiojdalaaGreatDoorRowL
import Derived.Shelf.SlSortCmp.NoneTotal
namespace Go.Proofs.YtphcnjbiojdalaaGreatDoor
open Go.RowKit
set_option linter.unusedVariables false
set_option linter.unusedSimpArgs false

theorem Chain.above {h : O} : ∀ {n : Nat} {l : List O}, Chain h n l → ∀ b ∈ l, b.c = h.c ∧ h.k + (n : Int) ≤ b.k
  | _, [], _, b, hb => by cases hb
  | n, x :: l, hc, b, hb => by
    rcases List.mem_cons.1 hb with rfl | hb
    · have e1 : b.c = h.c := by rw [hc.1]; rfl
      have e2 : b.k = h.k + (n : Int) := by rw [hc.1]; rfl
      exact ⟨e1, by omega⟩
    · have := Chain.above hc.2.2 b hb
      refine ⟨this.1, ?_⟩
      have := this.2
      push_cast at this
      omega
theorem Chain.order {h : O} : ∀ {n : Nat} {l : List O}, Chain h n l → l.Pairwise idLt
  | _, [], _ => List.Pairwise.nil
  | n, x :: l, hc => by
    refine List.pairwise_cons.2 ⟨fun b hb => ?_, Chain.order hc.2.2⟩
    have h1 := Chain.above hc.2.2 b hb
    have e1 : x.c = h.c := by rw [hc.1]; rfl
    have e2 : x.k = h.k + (n : Int) := by rw [hc.1]; rfl
    have n1 := hc.2.1.n1
    unfold idLt
    have := h1.2
    push_cast at this
    omega
theorem row_order {a : O} {t : List O} (ha : TextO a) (hc : Chain a (lenO a) t) : (a :: t).Pairwise idLt := by
  refine List.pairwise_cons.2 ⟨fun b hb => ?_, Chain.order hc⟩
  have h1 := Chain.above hc b hb
  have n1 := ha.n1
  unfold idLt
  omega
/-- Each goes on where the one ahead ends. -/
def GoAll : O → List O → Prop
  | _, [] => True
  | p, b :: l => goesB p b = true ∧ GoAll b l
theorem GoAll.get {p : O} : ∀ {l : List O}, GoAll p l → ∀ j (h : j + 1 < (p :: l).length), goesB (p :: l)[j] (p :: l)[j + 1] = true
  | [], _, j, h => by simp at h
  | b :: l, hg, 0, h => hg.1
  | b :: l, hg, j + 1, h => GoAll.get (p := b) hg.2 j (by simpa using h)
theorem Chain.goes {h : O} : ∀ {n : Nat} {l : List O} (p : O), Chain h n l → TextO p → p.c = h.c → p.rc = h.rc → p.rk = h.rk → p.k + (lenO p : Int) = h.k + (n : Int) → GoAll p l
  | _, [], _, _, _, _, _, _, _ => trivial
  | n, b :: l, p, hc, hp, h1, h2, h3, h4 => by
    have e1 : b.c = h.c := by rw [hc.1]; rfl
    have e2 : b.k = h.k + (n : Int) := by rw [hc.1]; rfl
    have e3 : b.lc = h.c := by rw [hc.1]; rfl
    have e4 : b.lk = h.k + (n : Int) - 1 := by rw [hc.1]; rfl
    have e5 : b.rc = h.rc := by rw [hc.1]; rfl
    have e6 : b.rk = h.rk := by rw [hc.1]; rfl
    have k2 := hp.k2
    have c0 := hp.c0
    have n1 := hp.n1
    have w1 : endO p = p.k + (lenO p : Int) := wrap_u64_small _ (by omega) (by omega)
    have w2 : IntKind.u64.wrap (endO p - 1) = h.k + (n : Int) - 1 := by rw [w1, h4]; exact wrap_u64_small _ (by omega) (by omega)
    refine ⟨?_, Chain.goes b hc.2.2 hc.2.1 e1 e5 e6 (by rw [e2]; push_cast; omega)⟩
    unfold goesB
    rw [w2, w1, hp.kind, hc.2.1.kind, e1, e2, e3, e4, e5, e6, h1, h2, h3]
    have d1 : decide (p.k < p.k + (lenO p : Int)) = true := decide_eq_true (by omega)
    have d2 : (h.k + (n : Int) == p.k + (lenO p : Int)) = true := by rw [h4]; exact beq_self_eq_true _
    rw [d1, d2]
    simp
theorem row_goes {a : O} {t : List O} (ha : TextO a) (hc : Chain a (lenO a) t) : ∀ j (h : j + 1 < (a :: t).length), goesB (a :: t)[j] (a :: t)[j + 1] = true :=
  GoAll.get (Chain.goes a hc ha rfl rfl rfl rfl)
theorem chunks_above : ∀ (f : Nat) (o : O) (R : List Nat), ∀ b ∈ chunks f o R, b.c = o.c ∧ o.k ≤ b.k
  | 0, _, _, b, hb => by cases hb
  | f + 1, o, R, b, hb => by
    rw [chunks] at hb
    split at hb
    · obtain rfl := List.mem_singleton.1 hb
      exact ⟨rfl, Int.le_refl _⟩
    · rcases List.mem_cons.1 hb with rfl | hb
      · exact ⟨rfl, Int.le_refl _⟩
      · have h1 := chunks_above f _ _ b hb
        refine ⟨h1.1, ?_⟩
        have h2 : (o.onward 4096).k = o.k + ((4096 : Nat) : Int) := rfl
        have := h1.2
        omega
theorem chunks_order : ∀ (f : Nat) (o : O) (R : List Nat), (chunks f o R).Pairwise idLt
  | 0, _, _ => List.Pairwise.nil
  | f + 1, o, R => by
    rw [chunks]
    split
    · exact List.pairwise_singleton _ _
    · refine List.pairwise_cons.2 ⟨fun b hb => ?_, chunks_order f _ _⟩
      have h1 := chunks_above f _ _ b hb
      have h2 : (o.onward 4096).k = o.k + ((4096 : Nat) : Int) := rfl
      have h3 : (o.withT (R.take 4096)).k = o.k := rfl
      have h4 : (o.withT (R.take 4096)).c = o.c := rfl
      have h5 : (o.onward 4096).c = o.c := rfl
      unfold idLt
      have := h1.1
      have := h1.2
      omega
theorem chunks_len : ∀ (f : Nat) (o : O) (R : List Nat), (chunks f o R).length ≤ f
  | 0, _, _ => Nat.le_refl _
  | f + 1, o, R => by
    rw [chunks]
    split
    · simp
    · have := chunks_len f (o.onward 4096) (R.drop 4096)
      simp only [List.length_cons]
      omega
theorem chunks_ne (f : Nat) (o : O) (R : List Nat) : chunks (f + 1) o R ≠ [] := by
  rw [chunks]
  split <;> simp
/-- A text of so many runes. -/
theorem enc_bytes (R : List Nat) (h1 : 1 ≤ R.length) (h2 : R.length ≤ 4096) : (strOf (encAll R)).data.toList ≠ [] ∧ (strOf (encAll R)).size ≤ 1000000 := by
  have := encAll_len R
  have e : (strOf (encAll R)).data.toList = encAll R := by unfold strOf; simp
  have e2 : (strOf (encAll R)).size = (encAll R).length := by unfold strOf; simp [ByteArray.size]
  rw [e, e2]
  refine ⟨fun h => ?_, by omega⟩
  have h3 := this.1
  rw [h, List.length_nil] at h3
  omega
theorem parts_texts (k0 : Int) {o : O} (h : TextO o) : ∀ p ∈ partsOf k0 o, p.tx.data.toList ≠ [] ∧ p.tx.size ≤ 1000000 := by
  have hb := ahead_bd k0 o
  have n1 := h.n1
  have n2 := h.n2
  obtain ⟨e, he⟩ : ∃ e : Nat, endP k0 o = (e : Int) := ⟨(endP k0 o).toNat, by unfold endP; omega⟩
  have he1 : 1 ≤ e ∧ e ≤ lenO o := by unfold endP at he; omega
  have hl := h.len
  intro p hp
  unfold partsOf at hp
  rw [he, (h.cut0 e he1.1 he1.2).1] at hp
  rcases List.mem_cons.1 hp with rfl | hp
  · exact enc_bytes _ (by rw [List.length_take]; omega) (by rw [List.length_take]; omega)
  · by_cases hlt : e < lenO o
    · have c1 := h.cut1 e he1.1 hlt
      rw [c1.1, c1.2] at hp
      obtain rfl := List.mem_singleton.1 hp
      exact enc_bytes _ (by rw [List.length_drop]; omega) (by rw [List.length_drop]; omega)
    · have : e = lenO o := by omega
      rw [this, h.cutn.2] at hp
      cases hp
theorem Chain.texts {h : O} : ∀ {n : Nat} {l : List O}, Chain h n l → ∀ b ∈ l, TextO b
  | _, [], _, b, hb => by cases hb
  | n, x :: l, hc, b, hb => by
    rcases List.mem_cons.1 hb with rfl | hb
    · exact hc.2.1
    · exact Chain.texts hc.2.2 b hb
theorem row_texts (k0 : Int) {a : O} {t : List O} (ha : TextO a) (hc : Chain a (lenO a) t) : ∀ p ∈ partsL k0 (a :: t), p.tx.data.toList ≠ [] ∧ p.tx.size ≤ 1000000 := by
  intro p hp
  obtain ⟨o, ho, hq⟩ := List.mem_flatMap.1 hp
  rcases List.mem_cons.1 ho with rfl | ho
  · exact parts_texts k0 ha p hq
  · exact parts_texts k0 (hc.texts o ho) p hq
end Go.Proofs.YtphcnjbiojdalaaGreatDoor

/- ops.Join of texts that are one row. -/
namespace Go.Proofs.YtphcnjbiojdalaaGreatDoor
open Go.RowKit Go.Maps
set_option linter.unusedVariables false
set_option linter.unusedSimpArgs false
set_option maxRecDepth 100000

set_option maxHeartbeats 4000000 in
theorem join_any (l : List O) (a : O) (t : List O) (f : Nat) (v : Value) (w : World) (hU : TabsU w) (hsl : SlP w v l) (hl : l.length ≤ 1048576) (hz : Sized l) (hp : (a :: t).Perm (l.filter checkB)) (ha : TextO a) (hc : Chain a (lenO a) t) (hf : ((a :: t).flatMap rsO).length ≤ 4096 * (f + 1)) (hf2 : f ≤ 1048576) :
    Calls Tryz.prog 23 #[v] w fun e w' => ∃ v', e = .returned v' ∧ NewP w w' v' (chunks (f + 1) a ((a :: t).flatMap rsO)) := by
  have hsub : ∀ x ∈ a :: t, x ∈ l := fun x hx => (List.mem_filter.1 (hp.subset hx)).1
  have hzs : Sized (a :: t) := fun x hx => hz x (hsub x hx)
  have hls : (a :: t).length ≤ 1048576 := by have := hp.length_eq; have := List.length_filter_le checkB l; omega
  obtain ⟨p0, ps, hP, hp0, hpc⟩ := row_chunks a t ha hc f hf
  obtain ⟨ao, cap, rfl, _⟩ := hsl.shape
  have HRO : Hid (Calls Tryz.prog 50 #[.slice ao l.length cap] w fun e w' => ∃ v', e = .returned v' ∧ NewP w w' v' (a :: t)) := rightOnes_any l (a :: t) _ w hU hsl hl hz (by simp) hp (row_order ha hc)
  have HRL : Hid (∀ (W : World) (v : Value), Touch (fun _ => False) w W → SlP W v (a :: t) → Calls Tryz.prog 51 #[v] W fun e w' => e = .returned (.int .i64 ((a :: t).length : Int)) ∧ Touch (fun _ => False) W w') := fun W v tt hv => rowLen_any (a :: t) (by simp) v W (hU.keep tt) hv (by omega) (fun x hx => by have := (hzs x hx).1; omega) (row_goes ha hc)
  have HPC : Hid (∀ (W : World) (v : Value), Touch (fun _ => False) w W → SlP W v (a :: t) → Calls Tryz.prog 52 #[v] W fun e w' => ∃ v', e = .returned v' ∧ NewP W w' v' (chunks (f + 1) a ((a :: t).flatMap rsO))) := fun W v tt hv => by
    have := pieces_any (a :: t) (by simp) a.k (fun _ => rfl) p0 ps hP hp0 (row_texts a.k ha hc) v W (hU.keep tt) hv hls hzs
    rw [hpc] at this
    exact this
  have HIO : Hid (∀ (W : World) (v : Value), SlP W v (chunks (f + 1) a ((a :: t).flatMap rsO)) → Calls Tryz.prog 53 #[v] W fun e w' => ∃ v', e = .returned v' ∧ NewP W w' v' (chunks (f + 1) a ((a :: t).flatMap rsO))) := fun W v hv => by
    refine (inOrder_any _ (chunks_ne f a _) v W hv (by have := chunks_len (f + 1) a ((a :: t).flatMap rsO); omega)).mono ?_
    rintro e w' ⟨v', p, rfl, h1, h2, h3⟩
    rw [places_one _ _ p h1 h2 (List.Perm.refl _) (chunks_order _ _ _)] at h3
    exact ⟨v', rfl, h3⟩
  have hJl : (chunks (f + 1) a ((a :: t).flatMap rsO)).length ≤ 1048577 := by have := chunks_len (f + 1) a ((a :: t).flatMap rsO); omega
  clear hsub hzs hP hp0 hpc hsl hz hp ha hc hf hU
  generalize chunks (f + 1) a ((a :: t).flatMap rsO) = J at *
  have hs1 : 1 ≤ (a :: t).length := by simp
  generalize a :: t = s at *
  go_enter Tryz.func23, Tryz.ntmps23
  go_wp2_with fail
  refine HRO.out.mono ?_
  rintro e w1 ⟨v1, rfl, hN1⟩
  obtain ⟨ao1, cap1, rfl, hg1, hc1, hm1⟩ := hN1.shape
  have HN1 : Hid (NewP w w1 (.slice ao1 s.length cap1) s) := hN1
  clear hN1 HRO hg1
  go_wp2_with fail
  go_loopg [3, 4] 1 (fun gk s3 s4 wx => ∃ (aA aB : Option Addr) (nA nB cA cB : Nat), s3 = .slice aA nA cA ∧ s4 = .slice aB nB cB ∧ ((gk = 1 ∧ nA = s.length ∧ Hid (aA = ao1 ∧ cA = cap1 ∧ s4 = .slice none 0 0 ∧ wx = w1)) ∨ (gk = 0 ∧ nA = 0 ∧ Hid (NewP w wx s4 J))))
  case atStart => exact ⟨ao1, none, s.length, 0, cap1, 0, rfl, rfl, .inl ⟨rfl, rfl, rfl, rfl, rfl, rfl⟩⟩
  case round =>
    obtain ⟨aA, aB, nA, nB, cA, cB, rfl, rfl, hcase⟩ := hrel
    obtain ⟨wx, hwx⟩ : ∃ wx, wx = wr := ⟨_, rfl⟩
    subst hwx
    rcases hcase with ⟨rfl, rfl, HH⟩ | ⟨rfl, rfl, HJ⟩
    · obtain ⟨e1, e2, e3, e4⟩ := HH.out
      simp only [Value.slice.injEq] at e3
      obtain ⟨rfl, rfl, rfl⟩ := e3
      subst e1 e2 e4
      clear HH
      have i1 : (0 : Int) < (s.length : Int) := by omega
      have hsl1 : ∀ W, (Instr.slice 45 (.slice aA s.length cA) none (some (.int .i64 (s.length : Int))) none).run Tryz.prog W = .ok (.slice aA s.length cA) W := fun W => sliceP_to aA s.length cA s.length hc1 W
      have hsl2 : ∀ W, (Instr.slice 45 (.slice aA s.length cA) (some (.int .i64 (s.length : Int))) none none).run Tryz.prog W = .ok (.slice (if cA = s.length then aA else aA.map (·.add (s.length * 22))) (s.length - s.length) (cA - s.length)) W := fun W => sliceP_from aA s.length cA s.length (Nat.le_refl _) W
      rw [Nat.sub_self] at hsl2
      generalize (if cA = s.length then aA else aA.map (·.add (s.length * 22))) = aC at hsl2
      go_wp2_with fail
      refine (HRL.out _ _ HN1.out.touch HN1.out.sl).mono ?_
      rintro e W2 ⟨rfl, t2⟩
      have HT2 : Hid (Touch (fun _ => False) w W2 ∧ SlP W2 (.slice aA s.length cA) s) := ⟨HN1.out.touch.trans t2, HN1.out.sl.touch t2⟩
      clear t2
      go_wp2_with fail
      refine (HPC.out W2 _ HT2.out.1 HT2.out.2).mono ?_
      rintro e W3 ⟨v3, rfl, hN3⟩
      have hap := NewP.app (NewP.nil w W3 (HT2.out.1.trans hN3.touch))
      obtain ⟨ao3, cap3, rfl, hg3, hc3, hm3⟩ := hN3.shape
      have hno3 : ao3 = none → cap3 = 0 := by
        obtain ⟨ao9, cp9, e9, h9, _⟩ := hN3.sl.shape
        simp only [Value.slice.injEq] at e9
        rw [e9.1, e9.2.2]; exact h9
      have hL3 : LiesP W3 ao3 J := by
        obtain ⟨ao9, cp9, e9, h1, h2, h3, h4⟩ := hN3.sl
        simp only [Value.slice.injEq] at e9
        rw [e9.1]; exact h4
      obtain ⟨v4, w4, hrun, hN4, _⟩ := hap ao3 J.length cap3 J rfl hno3 hL3 (by simp; omega)
      rw [List.nil_append] at hN4
      have HN4 : Hid (NewP w w4 v4 J) := hN4
      obtain ⟨ao4, cap4, rfl, _⟩ := hN4.shape
      clear hap hN3 hN4 hno3 hL3 hg3 HT2
      go_wp2_with (at_builtin; refine wpList_append_runP rfl _ _ rfl _ _ _ rfl rfl hrun ?_)
      go_roundg 0
      case measure => omega
      case rel => exact ⟨aC, ao4, 0, J.length, cA - s.length, cap4, rfl, rfl, .inr ⟨rfl, rfl, HN4.out⟩⟩
    · go_wp2_with fail
      refine (HIO.out wx _ HJ.out.sl).mono ?_
      rintro e w6 ⟨v6, rfl, hN6⟩
      have HN6 : Hid (NewP w w6 v6 J) := hN6.since HJ.out.touch
      obtain ⟨ao6, cap6, rfl, _⟩ := hN6.shape
      clear hN6 HJ
      go_wp2_with fail
      go_ret
      exact ⟨_, rfl, HN6.out⟩
end Go.Proofs.YtphcnjbiojdalaaGreatDoor

/- ops.Join of no operations: none. -/
namespace Go.Proofs.YtphcnjbiojdalaaGreatDoor
open Go.RowKit Go.Maps
set_option linter.unusedVariables false
set_option linter.unusedSimpArgs false
set_option maxRecDepth 100000

set_option maxHeartbeats 4000000 in
theorem inOrder_nil (ao : Option Addr) (cap : Nat) (w : World) : Calls Tryz.prog 53 #[.slice ao 0 cap] w fun e w' => ∃ v', e = .returned v' ∧ NewP w w' v' [] := by
  have HS : Hid (∀ (W : World) (p : Option Addr) (c : Nat) (fv : Value), Calls Tryz.prog 81 #[.slice p 0 c, fv] W fun e w' => e = .returned (.tuple #[]) ∧ w' = W) := fun W p c fv => AnyF.slices_SortFunc_none { Tryz.sortI with } p c fv W
  obtain ⟨i1, hi1, hz0, hz1, hz2⟩ := info_parts (show (Tryz.prog.info? 3).map (fun i => (i.zero, i.size, i.bytes)) = some (some (iN 0), 1, 8) from by kernel_rfl)
  obtain ⟨i2, hi2, hy0, hy1, hy2⟩ := info_parts infoP
  obtain ⟨Z1, hZ1⟩ : ∃ Z1, Hid (Z1 = madeCells (iN 0).cells (0 * 1)) := ⟨_, Eq.refl _⟩
  obtain ⟨Z2, hZ2⟩ : ∃ Z2, Hid (Z2 = madeCells zeroO.val.cells (0 * 22)) := ⟨_, Eq.refl _⟩
  have hmk1 : ∀ W : World, (Instr.makeSlice 98 (.int .i64 0) (.int .i64 0)).run Tryz.prog W = .ok (.slice (some ⟨W.heap.size, 0, none⟩) 0 0) (W.alloc (.cells Z1 3)) := fun W => by
    have := run_make W 98 3 i1 (iN 0) Tryz.underlying98 hi1 hz0 .i64 .i64 0 0 (by omega) (by omega) (by rw [hz2]; omega) (by omega)
    rw [this, hz1, hZ1.out]; rfl
  have hmk2 : ∀ W : World, (Instr.makeSlice 45 (.int .i64 0) (.int .i64 0)).run Tryz.prog W = .ok (.slice (some ⟨W.heap.size, 0, none⟩) 0 0) (W.alloc (.cells Z2 31)) := fun W => by
    have := run_make W 45 31 i2 zeroO.val Tryz.underlying45 hi2 hy0 .i64 .i64 0 0 (by omega) (by omega) (by rw [hy2]; omega) (by omega)
    rw [this, hy1, hZ2.out]; rfl
  have HZ2 : Hid (Z2 = (cellsP []).toArray) := by
    apply Array.ext'
    rw [hZ2.out]; exact made_op 0
  clear hZ1 hZ2 hi1 hz0 hz1 hz2 hi2 hy0 hy1 hy2
  go_enter Tryz.func53, Tryz.ntmps53
  go_wp2_with fail
  obtain ⟨W1, hW1⟩ : ∃ W1, Hid (W1 = (w.alloc (.cells #[.slice ao 0 cap] 45)).alloc (.cells Z1 3)) := ⟨_, Eq.refl _⟩
  have HW : Hid (Touch (fun _ => False) w W1 ∧ W1.heap[w.heap.size]? = some (.cells #[.slice ao 0 cap] 45 (0, 0))) := by
    rw [hW1.out]
    exact ⟨((Touch.refl _ _).alloc _).alloc _, (heap_two w _ _).1⟩
  first | rw [← hW1.out] | skip
  clear hW1
  go_loopg [13] 0 (fun gk s13 wx => gk = 0 ∧ s13 = .int .i64 0 ∧ Hid (W1 = wx))
  case atStart => exact ⟨rfl, rfl, Eq.refl _⟩
  case round =>
    obtain ⟨_, rfl, hwx⟩ := hrel
    have hwx := hwx.out
    subst hwx
    have hB : W1.cell? ⟨w.heap.size, 0, none⟩ = some (.slice ao 0 cap) := by rw [cell_of_block HW.out.2]; rfl
    clear hmk1
    go_wp2_with fail
    refine (HS.out W1 _ _ _).mono ?_
    rintro e w3 ⟨rfl, hw3⟩
    rw [hw3]
    clear hw3
    go_wp2_with fail
    obtain ⟨W4, hW4⟩ : ∃ W4, Hid (W4 = W1.alloc (.cells Z2 31)) := ⟨_, Eq.refl _⟩
    have H4 : Hid (NewP w W4 (.slice (some ⟨W1.heap.size, 0, none⟩) 0 0) []) := by
      rw [hW4.out]
      have hR : RowAt (W1.alloc (.cells Z2 31)) W1.heap.size [] := by
        unfold RowAt
        rw [heap_alloc_new, HZ2.out]
      exact hR.new (HW.out.1.trans ((Touch.refl _ _).alloc _)) HW.out.1.size (by simp)
    first | rw [← hW4.out] | skip
    clear hW4 hmk2
    go_loopg [29] 0 (fun gk s29 wx => gk = 0 ∧ s29 = .int .i64 0 ∧ Hid (W4 = wx))
    case atStart => exact ⟨rfl, rfl, Eq.refl _⟩
    case round =>
      obtain ⟨_, rfl, hwx⟩ := hrel
      have hwx := hwx.out
      subst hwx
      go_wp2_with fail
      go_ret
      exact ⟨_, rfl, H4.out⟩
set_option maxHeartbeats 4000000 in
theorem compact_nil (ao : Option Addr) (cap : Nat) (f : Value) (w : World) : Calls Tryz.prog 75 #[.slice ao 0 cap, f] w fun e w' => e = .returned (.slice ao 0 cap) ∧ w' = w := by
  go_enter Tryz.func75, Tryz.ntmps75
  go_wp2_with fail
  go_ret
  exact ⟨rfl, rfl⟩
set_option maxHeartbeats 4000000 in
theorem rightOnes_nil (ao : Option Addr) (cap : Nat) (w : World) : Calls Tryz.prog 50 #[.slice ao 0 cap] w fun e w' => ∃ v', e = .returned v' ∧ NewP w w' v' [] := by
  go_enter Tryz.func50, Tryz.ntmps50
  go_wp2_with fail
  go_loopg [3, 8] 0 (fun gk s3 s8 wx => gk = 0 ∧ s3 = .slice none 0 0 ∧ s8 = .int .i64 0 ∧ Hid (w = wx))
  case atStart => exact ⟨rfl, rfl, rfl, Eq.refl _⟩
  case round =>
    obtain ⟨_, rfl, rfl, hwx⟩ := hrel
    have hwx := hwx.out
    subst hwx
    go_wp2_with fail
    refine (inOrder_nil none 0 w).mono ?_
    rintro e w2 ⟨v2, rfl, hN2⟩
    obtain ⟨ao2, cap2, e2, _⟩ := hN2.shape
    have e3 : v2 = .slice ao2 0 cap2 := e2
    subst e3
    have HN2 : Hid (NewP w w2 (.slice ao2 0 cap2) []) := hN2
    clear hN2 e2
    go_wp2_with fail
    refine (compact_nil ao2 cap2 _ w2).mono ?_
    rintro e w3 ⟨rfl, hw3⟩
    rw [hw3]
    clear hw3
    go_wp2_with fail
    go_ret
    exact ⟨_, rfl, HN2.out⟩
set_option maxHeartbeats 4000000 in
theorem join_nil (ao : Option Addr) (cap : Nat) (w : World) : Calls Tryz.prog 23 #[.slice ao 0 cap] w fun e w' => ∃ v', e = .returned v' ∧ NewP w w' v' [] := by
  go_enter Tryz.func23, Tryz.ntmps23
  go_wp2_with fail
  refine (rightOnes_nil ao cap w).mono ?_
  rintro e w2 ⟨v2, rfl, hN2⟩
  obtain ⟨ao2, cap2, e2, _⟩ := hN2.shape
  have e3 : v2 = .slice ao2 0 cap2 := e2
  subst e3
  have HN2 : Hid (NewP w w2 (.slice ao2 0 cap2) []) := hN2
  clear hN2 e2
  go_wp2_with fail
  go_loopg [3, 4] 0 (fun gk s3 s4 wx => gk = 0 ∧ s3 = .slice ao2 0 cap2 ∧ s4 = .slice none 0 0 ∧ Hid (w2 = wx))
  case atStart => exact ⟨rfl, rfl, rfl, Eq.refl _⟩
  case round =>
    obtain ⟨_, rfl, rfl, hwx⟩ := hrel
    have hwx := hwx.out
    subst hwx
    go_wp2_with fail
    refine (inOrder_nil none 0 w2).mono ?_
    rintro e w3 ⟨v3, rfl, hN3⟩
    have HN3 : Hid (NewP w w3 v3 []) := hN3.since HN2.out.touch
    obtain ⟨ao3, cap3, e4, _⟩ := hN3.shape
    have e5 : v3 = .slice ao3 0 cap3 := e4
    subst e5
    clear hN3 e4
    go_wp2_with fail
    go_ret
    exact ⟨_, rfl, HN3.out⟩
end Go.Proofs.YtphcnjbiojdalaaGreatDoor
