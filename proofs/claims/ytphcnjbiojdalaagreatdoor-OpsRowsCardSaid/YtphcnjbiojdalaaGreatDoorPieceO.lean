/- ops.pieces. -/
import Derived.Test.YtphcnjbiojdalaaGreatDoorPartO
import Derived.Test.YtphcnjbiojdalaaGreatDoorPart16
namespace Go.Proofs.YtphcnjbiojdalaaGreatDoor
open Go.RowKit Go.Maps
set_option linter.unusedVariables false
set_option linter.unusedSimpArgs false
set_option maxRecDepth 100000

/-- A row of operations of our own, above n0. -/
structure OutP (n0 : Nat) (w : World) (v : Value) (l : List O) : Prop where
  owns : w.ownsRow 0 31 22 v l.length (cellsP l)
  fresh : ∀ k, v.ownBlock = some k → n0 ≤ k
theorem OutP.nil (n0 : Nat) (w : World) : OutP n0 w (.slice none 0 0) [] := ⟨World.ownsRow_nil _ _ _ _, fun k hk => by simp [Value.ownBlock] at hk⟩
theorem OutP.same {n0 : Nat} {w w' : World} {v : Value} {l : List O} (h : OutP n0 w v l) (k : ∀ g cur, v.ownBlock = some g → w.heap[g]? = some (.cells cur 31 (0, 0)) → w'.heap[g]? = some (.cells cur 31 (0, 0))) : OutP n0 w' v l := by
  refine ⟨⟨h.owns.1, ?_⟩, h.fresh⟩
  rcases h.owns.2 with e | ⟨g, cap, cur, rfl, hb, hg, r⟩
  · exact .inl e
  · exact .inr ⟨g, cap, cur, rfl, hb, k g cur rfl hg, r⟩
theorem OutP.touch {n0 : Nat} {w w' : World} {v : Value} {l : List O} (h : OutP n0 w v l) (t : Touch (fun _ => False) w w') : OutP n0 w' v l := h.same fun g cur _ hg => (t.block g (lt_of_heap hg) id).trans hg
theorem OutP.keep {n0 B b : Nat} {by0 : List UInt8} {w w' : World} {v : Value} {l : List O} (h : OutP n0 w v l) (hb : BldF B b by0 w) (k : BKeep B b w w') : OutP n0 w' v l := h.same fun g cur _ hg => by
  refine k.others g _ hg (fun e => ?_) (fun c fz e => ?_)
  · obtain ⟨p, x, hx⟩ := BldF.block hb
    simp only [Option.some.injEq] at e
    rw [e, hx] at hg
    simp at hg
  · simp at e
theorem OpAt.keepB {B b k : Nat} {by0 : List UInt8} {w w' : World} {x : O} (h : OpAt k x w) (hb : BldF B b by0 w) (t : BKeep B b w w') : OpAt k x w' := by
  refine t.others k _ h (fun e => ?_) (fun c fz e => ?_)
  · obtain ⟨p, y, hx⟩ := BldF.block hb
    simp only [Option.some.injEq] at e
    unfold OpAt at h
    rw [e, hx] at h
    simp at h
  · simp at e
theorem cells_keepB {B b k : Nat} {by0 : List UInt8} {w w' : World} {cur : Array Value} (h : w.heap[k]? = some (.cells cur 31 (0, 0))) (hb : BldF B b by0 w) (t : BKeep B b w w') : w'.heap[k]? = some (.cells cur 31 (0, 0)) := by
  refine t.others k _ h (fun e => ?_) (fun c fz e => ?_)
  · obtain ⟨p, y, hx⟩ := BldF.block hb
    simp only [Option.some.injEq] at e
    rw [e, hx] at h
    simp at h
  · simp at e
/-- A Builder stands, whatever is done to rows of operations. -/
theorem BldF.rows {B b : Nat} {l : List UInt8} {w w' : World} (h : BldF B b l w) (k : Go.Lib.OthersKept 31 none w w') : BldF B b l w' := by
  have hg : ∀ p, Go.Lib.BuilderAtF 92 5 B b p (Go.Lib.byteCells l) w → Go.Lib.BuilderAtF 92 5 B b p (Go.Lib.byteCells l) w' := by
    rintro p ⟨hB, v, hb, hown, hne⟩
    refine ⟨hB, v, k b _ hb (by simp) (fun c fz e => by simp at e), ⟨hown.1, ?_⟩, hne⟩
    rcases hown.2 with h | ⟨g, cap, cur, fz, rfl, hbg, hgg, r⟩
    · exact .inl h
    · exact .inr ⟨g, cap, cur, fz, rfl, hbg, k g _ hgg (by simp) (fun c fz e => by simp at e), r⟩
  rcases h with h | h
  · exact .inl (hg _ h)
  · exact .inr (hg _ h)
theorem OutP.shape {n0 : Nat} {w : World} {v : Value} {l : List O} (h : OutP n0 w v l) : ∃ ao cap, v = .slice ao l.length cap ∧ (0 < l.length → ∃ g, ao = some ⟨g, 0, none⟩ ∧ n0 ≤ g ∧ ∃ cur, w.heap[g]? = some (.cells cur 31 (0, 0)) ∧ l.length * 22 ≤ cur.size) := by
  rcases h.owns.2 with ⟨e, h0⟩ | ⟨g, cap, cur, e, hb, hg, q1, q2, q3, q4⟩
  · exact ⟨none, 0, by rw [e, h0], fun h => by omega⟩
  · exact ⟨_, cap, e, fun _ => ⟨g, rfl, h.fresh g (by rw [e]; rfl), cur, hg, by rw [q3]; exact Nat.mul_le_mul_right _ q1⟩⟩
/-- An append of one, out of a new block. -/
theorem OutP.app1 {n0 : Nat} {wx : World} {v : Value} {a : List O} (h : OutP n0 wx v a) (hn : n0 ≤ wx.heap.size) (r : O) (hlen : a.length ≤ 1073741824) :
    ∃ v' w', (Builtin.append_ #[45, 45] 45 #[v, .slice (some ⟨wx.heap.size, 0, none⟩) 1 1]).run Tryz.prog (wx.alloc (opO r)) = .ok v' w' ∧ OutP n0 w' v' (a ++ [r]) ∧ (∀ k, k < wx.heap.size → v.ownBlock ≠ some k → w'.heap[k]? = wx.heap[k]?) ∧ Go.Lib.OthersKept 31 none wx w' ∧ (∀ B, B ≤ n0 → Below B wx w') ∧ wx.heap.size ≤ w'.heap.size := by
  have t : Touch (fun _ => False) wx (wx.alloc (opO r)) := (Touch.refl _ _).alloc _
  obtain ⟨v', w', hr, ho, hg, hb⟩ := run_appendP (wx.alloc (opO r)) v a (h.touch t).owns (some ⟨wx.heap.size, 0, none⟩) 1 1 [r] rfl (fun h => by cases h) (LiesP.new wx r) (by simp; omega)
  have hold : ∀ k, k < wx.heap.size → v.ownBlock ≠ some k → w'.heap[k]? = wx.heap[k]? := fun k hk hne => by
    rw [hg.block k (by simp; omega) (fun e => hne e.symm)]
    exact Below.heap_alloc _ _ _ hk
  refine ⟨v', w', hr, ⟨ho, fun k hk => ?_⟩, hold, fun k o hk _ hx => ?_, fun B hB => ?_, ?_⟩
  · rcases hb with e | e
    · exact h.fresh k (e ▸ hk)
    · rw [hk] at e; simp at e; omega
  · rw [hold k (lt_of_heap hk) (fun e => ?_)]
    · exact hk
    · rcases h.owns.2 with ⟨e', _⟩ | ⟨g, cap, cur, e', _, hgg, _⟩
      · rw [e'] at e; simp [Value.ownBlock] at e
      · rw [e'] at e
        simp only [Value.ownBlock, Option.some.injEq] at e
        subst e
        rw [hk] at hgg
        exact hx _ _ (Option.some.inj hgg)
  · refine ⟨hg.os, hg.tape, hg.output, Nat.le_trans (by simp) hg.size, fun k hk => hold k (by omega) (fun e => ?_)⟩
    have := h.fresh k e
    omega
  · exact Nat.le_trans (by simp) hg.size
theorem cellsP_text (init : List O) (last : O) (tx : ByteArray) : (cellsP (init ++ [last])).set (init.length * 22 + 8) (.string tx) = cellsP (init ++ [{ last with tx := tx }]) := by
  rw [cellsP_append, cellsP_append, List.set_append_right _ _ (by rw [cellsP_len]; omega), cellsP_len, Nat.add_sub_cancel_left]
  rfl
/-- The last one's text laid anew. -/
theorem OutP.setText {n0 : Nat} {w : World} {init : List O} {last : O} {g cap : Nat} (h : OutP n0 w (.slice (some ⟨g, 0, none⟩) (init ++ [last]).length cap) (init ++ [last])) (tx : ByteArray) :
    OutP n0 (w.setCell ⟨g, init.length * 22 + 8, none⟩ (.string tx)) (.slice (some ⟨g, 0, none⟩) (init ++ [last]).length cap) (init ++ [{ last with tx := tx }]) := by
  have hl : (init ++ [{ last with tx := tx }]).length = (init ++ [last]).length := by simp
  refine ⟨?_, h.fresh⟩
  rcases h.owns.2 with ⟨e, _⟩ | ⟨g', cap', cur, e, hb, hg, q1, q2, q3, q4⟩
  · simp at e
  · simp only [Value.slice.injEq, Option.some.injEq, Addr.mk.injEq] at e
    obtain ⟨⟨rfl, _, _⟩, _, rfl⟩ := e
    rw [hl]
    refine ⟨by rw [cellsP_len, hl], .inr ⟨g, cap, cur.setIfInBounds (init.length * 22 + 8) (.string tx), rfl, hb, heap_setCell_same _ _ _ _ hg, q1, q2, by simpa using q3, ?_⟩⟩
    rw [← cellsP_text, ← q4, Array.toList_setIfInBounds, List.take_set]
theorem others_set {w : World} {g i : Nat} {cur : Array Value} {x : Value} (h : w.heap[g]? = some (.cells cur 31 (0, 0))) : Go.Lib.OthersKept 31 none w (w.setCell ⟨g, i, none⟩ x) := fun k o hk _ hx => by
  rw [Below.heap_setCell _ _ _ _ (fun e => ?_)]
  · exact hk
  · simp only at e
    subst e
    rw [hk] at h
    exact hx _ _ (Option.some.inj h)
theorem bytes_app (a b : ByteArray) : (⟨(a.data.toList ++ b.data.toList).toArray⟩ : ByteArray) = a ++ b := by
  apply ByteArray.ext
  apply Array.ext'
  simp [ByteArray.data_append]
theorem bytes_own (a : ByteArray) : (⟨(([] : List UInt8) ++ a.data.toList).toArray⟩ : ByteArray) = a := by
  apply ByteArray.ext
  simp
/-- What is so behind i rounds. -/
structure PInv (w w2 : World) (g : Nat) (cur : Array Value) (k0 : Int) (P R : List O) (i : Nat) (wx : World) (v : Value) (n : Nat) : Prop where
  below : Below w.heap.size w wx
  size : w2.heap.size ≤ wx.heap.size
  parts : wx.heap[g]? = some (.cells cur 31 (0, 0))
  st : ∃ (out : List O) (bs : List UInt8), n = out.length ∧ OutP w2.heap.size wx v out ∧ BldF w.heap.size w.heap.size bs wx ∧ bs.length ≤ 1000000 * i ∧ out.length ≤ i ∧ ((i = 0 ∧ out = []) ∨ ∃ init last, out = init ++ [last] ∧ bs = last.tx.data.toList ∧ piecesF k0 init last (P.drop i) = R)
set_option maxHeartbeats 8000000 in
theorem pieces_any (l : List O) (hne : l ≠ []) (k0 : Int) (hk0 : ∀ h : 0 < l.length, l[0].k = k0) (p0 : O) (ps : List O) (hP : partsL k0 l = p0 :: ps) (hp0 : bnd k0 p0 = true) (hPn : ∀ p ∈ partsL k0 l, p.tx.data.toList ≠ [] ∧ p.tx.size ≤ 1000000) (v : Value) (w : World) (hU : TabsU w) (hsl : SlP w v l) (hl : l.length ≤ 1048576) (hz : Sized l) :
    Calls Tryz.prog 52 #[v] w fun e w' => ∃ v', e = .returned v' ∧ NewP w w' v' (piecesF k0 [] p0 ps) := by
  obtain ⟨b, o, cap, rfl, hcap, hcm, hrow⟩ := hsl.row hne
  have hblt : b < w.heap.size := by
    have h0 := List.length_pos_iff.2 hne
    have := hrow 0 h0 0 (.int .u64 l[0].c) rfl
    exact World.block_lt_of_cell? _ _ this
  have HRW : Hid (∀ (W : World), Touch (fun _ => False) w W → ∀ j (h : j < l.length), W.rangeAt b (o + j * 22) l[j].vals.toList) := fun W t j h i u hu => by
    rw [World.cell?_of_block (t.block _ hblt id)]; exact hrow j h i u hu
  have HK0 : Hid (∀ (W : World), Below w.heap.size w W → W.cell? ⟨b, o + 1, none⟩ = some (.int .u64 k0)) := fun W t => by
    have h0 := List.length_pos_iff.2 hne
    have := hrow 0 h0 1 (.int .u64 l[0].k) rfl
    rw [hk0 h0] at this
    rw [World.cell?_of_block (t.block _ hblt)]
    simpa using this
  have HPT : Hid (∀ (W : World), Touch (fun _ => False) w W → Calls Tryz.prog 77 #[.slice (some ⟨b, o, none⟩) l.length cap] W fun e w' => ∃ v', e = .returned v' ∧ NewP W w' v' (partsL k0 l)) := fun W t => parts_any l hne k0 hk0 _ W (hU.keep t) (hsl.touch t) hl hz
  have hPl : (partsL k0 l).length ≤ 2097152 := by have := partsL_len k0 l; omega
  have hn0 : (0 : Int) < (l.length : Int) := by have := List.length_pos_iff.2 hne; omega
  have hbs : ∀ (x : O) (W : World), (Instr.buildSlice 45 1 #[(0, x.val)]).run Tryz.prog W = .ok (.slice (some ⟨W.heap.size, 0, none⟩) 1 1) (W.alloc (opO x)) := run_build1
  have HPN : Hid (∀ p ∈ partsL k0 l, p.tx.data.toList ≠ [] ∧ p.tx.size ≤ 1000000) := hPn
  have HP : Hid (partsL k0 l = p0 :: ps ∧ bnd k0 p0 = true) := ⟨hP, hp0⟩
  clear hrow hcap hcm hblt hsl hne hz hU hk0 HRW hPn hP hp0
  generalize partsL k0 l = P at *
  go_enter Tryz.func52, Tryz.ntmps52
  go_wp2_with fail
  refine (HPT.out _ ((Touch.refl _ _).alloc _)).mono ?_
  rintro e w2 ⟨v2, rfl, hN2⟩
  have hPne : P ≠ [] := by rw [HP.out.1]; simp
  obtain ⟨g, cp2, cur, e2, _, hg, q1, q2, q3, q4⟩ : ∃ g cp2 cur, v2 = .slice (some ⟨g, 0, none⟩) P.length cp2 ∧ True ∧ w2.heap[g]? = some (.cells cur 31 (0, 0)) ∧ P.length ≤ cp2 ∧ cp2 ≤ 9223372036854775807 ∧ cur.size = cp2 * 22 ∧ cur.toList.take (P.length * 22) = cellsP P := by
    rcases hN2.owns.2 with ⟨e, h0⟩ | ⟨g, cap, cur, e, hb, hg, q1, q2, q3, q4⟩
    · exact absurd (List.length_eq_zero_iff.1 h0) hPne
    · exact ⟨g, cap, cur, e, trivial, hg, q1, q2, q3, q4⟩
  subst e2
  have HRP : Hid (∀ (W : World), W.heap[g]? = some (.cells cur 31 (0, 0)) → ∀ j (h : j < P.length), W.rangeAt g (j * 22) P[j].vals.toList) := fun W hW j hj i u hu => by
    have hi : i < 22 := (List.getElem?_eq_some_iff.1 hu).1
    rw [cell_of_block hW]
    have h1 := cellsP_get P j hj i hi
    rw [← q4, List.getElem?_take_of_lt (by have := Nat.mul_le_mul_right 22 hj; omega)] at h1
    rw [← Array.getElem?_toList, h1]; exact hu
  have HG : Hid (g < w2.heap.size ∧ w.heap.size < g) := ⟨lt_of_heap hg, by
    have := hN2.fresh g rfl
    rw [World.size_alloc] at this
    omega⟩
  have H0 : Hid (PInv w w2 g cur k0 P (piecesF k0 [] p0 ps) 0 w2 (.slice none 0 0) 0) := by
    have t := hN2.touch
    refine ⟨?_, Nat.le_refl _, hg, [], [], rfl, OutP.nil _ _, (BldF.new w).touch t, by simp, by simp, .inl ⟨rfl, rfl⟩⟩
    have t2 : Touch (fun _ => False) w w2 := ((Touch.refl _ _).alloc _).trans t
    exact t2.below (Nat.le_refl _) (fun _ _ => id)
  clear hN2 hg q1 q2 q3 q4 HPT
  generalize HRR : piecesF k0 [] p0 ps = R at *
  have HRH : Hid (piecesF k0 [] p0 ps = R) := HRR
  clear HRR
  go_wp2_with fail
  go_loopg [3, 10] P.length (fun gk s3 s10 wx => ∃ (i : Nat) (ao : Option Addr) (n cp : Nat), i + gk = P.length ∧ s3 = .slice ao n cp ∧ s10 = .int .i64 (i : Int) ∧ Hid (PInv w w2 g cur k0 P R i wx (.slice ao n cp) n))
  case atStart => exact ⟨0, none, 0, 0, by omega, rfl, rfl, H0.out⟩
  case round =>
    obtain ⟨i, ao, n, cp, hig, rfl, rfl, HI⟩ := hrel
    obtain ⟨wx, hwx⟩ : ∃ wx, wx = wr := ⟨_, rfl⟩
    subst hwx
    by_cases hil : i < P.length
    · have i1 : (0 : Int) ≤ (i : Int) := by omega
      have i2 : (i : Int) < (P.length : Int) := by omega
      have HRX : Hid (wx.rangeAt g (i * 22) P[i].vals.toList) := HRP.out wx HI.out.parts i hil
      have HPX : Hid (P[i].tx.data.toList ≠ [] ∧ P[i].tx.size ≤ 1000000) := HPN.out _ (List.getElem_mem hil)
      have HDR : Hid (P.drop i = P[i] :: P.drop (i + 1)) := List.drop_eq_getElem_cons hil
      have HP0 : Hid (i = 0 → P[i] = p0 ∧ P.drop (i + 1) = ps) := by
        intro e
        subst e
        refine ⟨?_, by rw [HP.out.1]; rfl⟩
        have h1 : P[0]? = some p0 := by rw [HP.out.1]; rfl
        rw [List.getElem?_eq_getElem hil] at h1
        exact Option.some.inj h1
      generalize P[i] = x at *
      have hrem := ahead_rem k0 x
      obtain ⟨bd, hbd⟩ : ∃ bd, (aheadO k0 x == 0) = bd := ⟨_, rfl⟩
      have HBD : Hid (bnd k0 x = bd) := hbd
      generalize aheadO k0 x = ah at *
      go_upto_region 5 with fail
      refine wp_region_lit ?_
      refine wpList_plain rfl fun K hK => ?_
      go_simp
      refine hK _ _ ?_
      clear hK K
      refine wpList_load_mid rfl 31 (.tmp 12) rfl g (i * 22) rfl x.vals.toList _ HRX.out Tryz.underlying31 rfl (by kernel_rfl) ?_
      simp only [Act.put, List.setIfInBounds_toArray, List.set_cons_succ, List.set_cons_zero]
      refine wpList_plain rfl fun K hK => ?_
      go_simp
      refine hK _ _ ?_
      clear hK K
      have hz : OpAt wx.heap.size zeroO (wx.alloc (.cells #[.int .u64 0, .int .u64 0, .int .i64 0, .int .u64 0, .int .u64 0, .int .u64 0, .int .u64 0, .int .u64 0, .string ⟨#[]⟩, .int .i64 0, .int .i64 0, .float .f64 0, .string ⟨#[]⟩, .string ⟨#[]⟩, .int .u64 0, .int .u64 0, .int .u64 0, .int .u64 0, .bool false, .int .u64 0, .int .u64 0, .bool false] 31)) := heap_alloc_new _ _
      refine wpList_store_mid rfl 31 (.tmp 6) (.tmp 13) rfl wx.heap.size 0 x.vals rfl rfl (hz.there 0 22 (by decide)) (by kernel_rfl) (by kernel_rfl) ?_
      simp only [Act.put]
      obtain ⟨W1, hW⟩ : ∃ W, Hid (W = (wx.alloc (.cells #[.int .u64 0, .int .u64 0, .int .i64 0, .int .u64 0, .int .u64 0, .int .u64 0, .int .u64 0, .int .u64 0, .string ⟨#[]⟩, .int .i64 0, .int .i64 0, .float .f64 0, .string ⟨#[]⟩, .string ⟨#[]⟩, .int .u64 0, .int .u64 0, .int .u64 0, .int .u64 0, .bool false, .int .u64 0, .int .u64 0, .bool false] 31)).setCells wx.heap.size 0 x.vals.toList) := ⟨_, Eq.refl _⟩
      have HW1 : Hid (Touch (fun _ => False) wx W1 ∧ OpAt wx.heap.size x W1) := by rw [hW.out]; exact ⟨((Touch.refl _ _).alloc _).stored (Nat.le_refl _) 0 _, hz.stored 0 x.vals.toList (by kernel_rfl)⟩
      rw [← hW.out]
      clear hW hz
      have q1 : W1.cell? ⟨wx.heap.size, 1, none⟩ = some (.int .u64 x.k) := HW1.out.2.q1
      have q2 : W1.cell? ⟨b, o + 1, none⟩ = some (.int .u64 k0) := HK0.out W1 (HI.out.below.trans (HW1.out.1.below HI.out.below.size (fun _ _ => id)))
      go_upto_region 6 with fail
      go_quiet (fail)
      clear q1 q2 hrem
      have HW2 : Hid (Touch (fun _ => False) wx (W1.drewN nq) ∧ OpAt wx.heap.size x (W1.drewN nq)) := ⟨HW1.out.1.drewN nq, HW1.out.2⟩
      generalize W1.drewN nq = W2 at *
      clear HW1 HRX
      obtain ⟨out, bs, hno, hO, hB, hbl, hol, hst⟩ := HI.out.st
      subst hno
      have HO : Hid (OutP w2.heap.size W2 (.slice ao out.length cp) out ∧ BldF w.heap.size w.heap.size bs W2 ∧ W2.heap[g]? = some (.cells cur 31 (0, 0)) ∧ Below w.heap.size w W2 ∧ w2.heap.size ≤ W2.heap.size ∧ w2.heap.size ≤ wx.heap.size) := ⟨hO.touch HW2.out.1, hB.touch HW2.out.1, (HW2.out.1.block g (lt_of_heap HI.out.parts) id).trans HI.out.parts, HI.out.below.trans (HW2.out.1.below HI.out.below.size (fun _ _ => id)), Nat.le_trans HI.out.size HW2.out.1.size, HI.out.size⟩
      have HST : Hid ((i = 0 ∧ out = []) ∨ ∃ init last, out = init ++ [last] ∧ bs = last.tx.data.toList ∧ piecesF k0 init last (P.drop i) = R) := hst
      have HOX : Hid (OutP w2.heap.size wx (.slice ao out.length cp) out) := hO
      clear hO hB hst HI
      cases bd
      · obtain ⟨init, last, rfl, rfl, hR⟩ : ∃ init last, out = init ++ [last] ∧ bs = last.tx.data.toList ∧ piecesF k0 init last (P.drop i) = R := by
          rcases HST.out with ⟨h1, _⟩ | h
          · have := (HP0.out h1).1
            rw [this, HP.out.2] at HBD
            cases HBD.out
          · exact h
        have HR2 : Hid (piecesF k0 init { last with tx := last.tx ++ x.tx } (P.drop (i + 1)) = R) := by
          rw [HDR.out, piecesF, HBD.out] at hR
          exact hR
        clear hR HST
        obtain ⟨go, cpo, rfl, rfl⟩ : ∃ go cpo, ao = some ⟨go, 0, none⟩ ∧ cp = cpo := by
          obtain ⟨ao9, cp9, e9, hh⟩ := HO.out.1.shape
          obtain ⟨g9, h1, _⟩ := hh (by simp)
          simp only [Value.slice.injEq] at e9
          exact ⟨g9, cp, by rw [e9.1, h1], rfl⟩
        have HX : Hid (w.heap.size ≤ W2.heap.size ∧ OpAt wx.heap.size x W2 ∧ BldF w.heap.size w.heap.size last.tx.data.toList W2 ∧ OutP w2.heap.size W2 (.slice (some ⟨go, 0, none⟩) (init ++ [last]).length cp) (init ++ [last]) ∧ W2.heap[g]? = some (.cells cur 31 (0, 0)) ∧ Below w.heap.size w W2 ∧ w2.heap.size ≤ W2.heap.size) := ⟨HO.out.2.2.2.1.size, HW2.out.2, HO.out.2.1, HO.out.1, HO.out.2.2.1, HO.out.2.2.2.1, HO.out.2.2.2.2.1⟩
        clear HO HW2
        have hnl : (init ++ [last]).length = init.length + 1 := by simp
        have hnl2 : ((init ++ [last]).length : Int) - 1 = (init.length : Int) := by omega
        rw [hnl] at HX hol ⊢
        have i5 : IntKind.i64.wrap ((init.length : Int) + 1 - 1) = (init.length : Int) := by rw [Int.add_sub_cancel]; exact wrap_i64_small _ (by omega) (by omega)
        have i6 : (0 : Int) ≤ (init.length : Int) := by omega
        have i7 : (init.length : Int) < (init.length : Int) + 1 := by omega
        clear hnl hnl2
        have qt : W2.cell? ⟨wx.heap.size, 8, none⟩ = some (.string x.tx) := HX.out.2.1.q8
        go_wp2_with fail
        refine (b_writeStr w.heap.size w.heap.size last.tx.data.toList x.tx W2 HX.out.2.2.1 (by have := HPX.out.2; omega) HX.out.1).mono ?_
        rintro e U2 ⟨rfl, hB2, hK2⟩
        have HY : Hid (OutP w2.heap.size U2 (.slice (some ⟨go, 0, none⟩) (init.length + 1) cp) (init ++ [last]) ∧ BldF w.heap.size w.heap.size (last.tx.data.toList ++ x.tx.data.toList) U2 ∧ U2.heap[g]? = some (.cells cur 31 (0, 0)) ∧ Below w.heap.size w U2 ∧ w2.heap.size ≤ U2.heap.size) := ⟨HX.out.2.2.2.1.keep HX.out.2.2.1 hK2, hB2, cells_keepB HX.out.2.2.2.2.1 HX.out.2.2.1 hK2, HX.out.2.2.2.2.2.1.trans hK2.below, Nat.le_trans HX.out.2.2.2.2.2.2 hK2.below.size⟩
        clear hB2 hK2 qt HX
        go_wp2_with fail
        refine (b_str w.heap.size w.heap.size (last.tx.data.toList ++ x.tx.data.toList) U2 HY.out.2.1 (by have := HPX.out.1; simp [this])).mono ?_
        rintro e U3 ⟨rfl, hB3, hK3⟩
        have HZ : Hid (OutP w2.heap.size U3 (.slice (some ⟨go, 0, none⟩) (init.length + 1) cp) (init ++ [last]) ∧ BldF w.heap.size w.heap.size (last.tx.data.toList ++ x.tx.data.toList) U3 ∧ U3.heap[g]? = some (.cells cur 31 (0, 0)) ∧ Below w.heap.size w U3 ∧ w2.heap.size ≤ U3.heap.size) := ⟨HY.out.1.keep HY.out.2.1 hK3, hB3, cells_keepB HY.out.2.2.1 HY.out.2.1 hK3, HY.out.2.2.2.1.trans hK3.below, Nat.le_trans HY.out.2.2.2.2 hK3.below.size⟩
        clear hB3 hK3 HY
        obtain ⟨cu, hcu, hcs⟩ : ∃ cu, U3.heap[go]? = some (.cells cu 31 (0, 0)) ∧ init.length * 22 + 8 < cu.size := by
          obtain ⟨ao9, cp9, e9, hh⟩ := HZ.out.1.shape
          obtain ⟨g9, h1, h2, cu, h3, h4⟩ := hh (by simp)
          simp only [Value.slice.injEq] at e9
          rw [← e9.1] at h1
          simp only [Option.some.injEq, Addr.mk.injEq] at h1
          obtain ⟨rfl, _⟩ := h1
          exact ⟨cu, h3, by simp at h4; omega⟩
        obtain ⟨old, hold⟩ : ∃ old, U3.cell? ⟨go, init.length * 22 + 8, none⟩ = some old := ⟨cu[init.length * 22 + 8], by rw [cell_of_block hcu]; simp [hcs]⟩
        have hfz : U3.frozen? ⟨go, init.length * 22 + 8, none⟩ = false := free_of_block hcu
        have HF : Hid (PInv w w2 g cur k0 P R (i + 1) (U3.setCell ⟨go, init.length * 22 + 8, none⟩ (.string ⟨(last.tx.data.toList ++ x.tx.data.toList).toArray⟩)) (.slice (some ⟨go, 0, none⟩) (init.length + 1) cp) (init.length + 1)) := by
          have hn9 : (init.length + 1) = (init ++ [last]).length := by simp
          have hgn : w2.heap.size ≤ go := HZ.out.1.fresh go rfl
          have hGl := HG.out
          refine ⟨?_, ?_, ?_, ?_⟩
          · exact HZ.out.2.2.2.1.setCell (p := ⟨go, init.length * 22 + 8, none⟩) (by show w.heap.size ≤ go; omega) _
          · simpa [World.setCell] using HZ.out.2.2.2.2
          · rw [Below.heap_setCell _ _ _ _ (by show g ≠ go; omega)]; exact HZ.out.2.2.1
          · have hO9 := HZ.out.1
            rw [hn9] at hO9
            have h9 := hO9.setText ⟨(last.tx.data.toList ++ x.tx.data.toList).toArray⟩
            rw [← hn9] at h9
            refine ⟨_, _, by simp, h9, HZ.out.2.1.rows (others_set hcu), ?_, ?_, .inr ⟨_, _, rfl, ?_, ?_⟩⟩
            · have := HPX.out.2
              have e9 : x.tx.data.toList.length = x.tx.size := by simp
              rw [List.length_append, e9]
              try simp only [List.length_nil]
              omega
            · simp; omega
            · simp
            · rw [bytes_app]; exact HR2.out
        clear hcu hcs HZ
        go_wp2_with fail
        go_roundg (P.length - (i + 1))
        case measure => omega
        case rel => exact ⟨i + 1, some ⟨go, 0, none⟩, (init.length + 1), cp, by omega, rfl, by go_num, HF.out⟩
      · obtain ⟨v5, w5, hrun, hO5, hold5, hoth5, hbel5, hsz5⟩ := HO.out.1.app1 HO.out.2.2.2.2.1 x (by omega)
        obtain ⟨go, cpo, hv5⟩ : ∃ go cpo, v5 = .slice (some ⟨go, 0, none⟩) (out.length + 1) cpo := by
          obtain ⟨ao9, cp9, e9, hh⟩ := hO5.shape
          obtain ⟨g9, h1, _⟩ := hh (by simp)
          exact ⟨g9, cp9, by rw [e9, h1]; simp⟩
        subst hv5
        have HR2 : Hid (piecesF k0 out x (P.drop (i + 1)) = R) := by
          rcases HST.out with ⟨h1, h2⟩ | ⟨init, last, h1, h2, h3⟩
          · have h4 := HP0.out h1
            rw [h2, h4.1, h4.2]; exact HRH.out
          · rw [HDR.out, piecesF, HBD.out] at h3
            rw [h1]; exact h3
        have HV : Hid (OutP w2.heap.size w5 (.slice (some ⟨go, 0, none⟩) (out.length + 1) cpo) (out ++ [x]) ∧ BldF w.heap.size w.heap.size bs w5 ∧ w5.heap[g]? = some (.cells cur 31 (0, 0)) ∧ Below w.heap.size w w5 ∧ w2.heap.size ≤ w5.heap.size ∧ OpAt wx.heap.size x w5) := by
          have hgg := HG.out
          have hfr := HO.out.1.fresh
          refine ⟨hO5, HO.out.2.1.rows hoth5, ?_, HO.out.2.2.2.1.trans (hbel5 _ (by omega)), Nat.le_trans HO.out.2.2.2.2.1 hsz5, ?_⟩
          · rw [hold5 g (lt_of_heap HO.out.2.2.1) (fun e => by have := hfr g e; omega)]; exact HO.out.2.2.1
          · have hx := HW2.out.2
            rw [OpAt, hold5 wx.heap.size (lt_of_heap hx) (fun e => ?_)]
            · exact hx
            · obtain ⟨ao9, cp9, e9, hh⟩ := HOX.out.shape
              rcases Nat.eq_zero_or_pos out.length with h0 | h0
              · rcases HOX.out.owns.2 with ⟨e8, _⟩ | ⟨g8, cap8, cur8, e8, _, hg8, _⟩
                · rw [e8] at e; simp [Value.ownBlock] at e
                · rw [e8] at e; simp only [Value.ownBlock, Option.some.injEq] at e; have := lt_of_heap hg8; omega
              · rcases HOX.out.owns.2 with ⟨e8, _⟩ | ⟨g8, cap8, cur8, e8, _, hg8, _⟩
                · rw [e8] at e; simp [Value.ownBlock] at e
                · rw [e8] at e; simp only [Value.ownBlock, Option.some.injEq] at e; have := lt_of_heap hg8; omega
        clear hO5 hold5 hoth5 hbel5 hsz5 HST
        go_upto_region 7 with fail
        refine wp_region_lit ?_
        refine wpList_plain rfl fun K hK => ?_
        go_simp
        refine hK _ _ ?_
        clear hK K
        refine wpList_load_mid rfl 31 (.tmp 6) rfl wx.heap.size 0 rfl x.vals.toList _ (rangeAt_of HW2.out.2) Tryz.underlying31 rfl (by kernel_rfl) ?_
        simp only [Act.put, List.setIfInBounds_toArray, List.set_cons_succ, List.set_cons_zero]
        refine wpList_plain rfl fun K hK => ?_
        go_simp
        refine hK _ _ ?_
        clear hK K
        refine wpList_append_runP rfl _ _ rfl _ _ _ rfl rfl hrun ?_
        clear hrun HW2 HO HOX
        simp only [Act.put, List.setIfInBounds_toArray, List.set_cons_succ, List.set_cons_zero]
        go_wp2_with fail
        refine (b_reset w.heap.size w.heap.size bs w5 HV.out.2.1).mono ?_
        rintro e U1 ⟨rfl, hB1, hK1⟩
        have HX : Hid (w.heap.size ≤ U1.heap.size ∧ OpAt wx.heap.size x U1 ∧ BldF w.heap.size w.heap.size [] U1 ∧ OutP w2.heap.size U1 (.slice (some ⟨go, 0, none⟩) (out.length + 1) cpo) (out ++ [x]) ∧ U1.heap[g]? = some (.cells cur 31 (0, 0)) ∧ Below w.heap.size w U1 ∧ w2.heap.size ≤ U1.heap.size) := ⟨(HV.out.2.2.2.1.trans hK1.below).size, HV.out.2.2.2.2.2.keepB HV.out.2.1 hK1, hB1, HV.out.1.keep HV.out.2.1 hK1, cells_keepB HV.out.2.2.1 HV.out.2.1 hK1, HV.out.2.2.2.1.trans hK1.below, Nat.le_trans HV.out.2.2.2.2.1 hK1.below.size⟩
        clear hB1 hK1 HV
        have i5 : IntKind.i64.wrap ((out.length : Int) + 1 - 1) = (out.length : Int) := by rw [Int.add_sub_cancel]; exact wrap_i64_small _ (by omega) (by omega)
        have i6 : (0 : Int) ≤ (out.length : Int) := by omega
        have i7 : (out.length : Int) < (out.length : Int) + 1 := by omega
        have qt : U1.cell? ⟨wx.heap.size, 8, none⟩ = some (.string x.tx) := HX.out.2.1.q8
        go_wp2_with fail
        refine (b_writeStr w.heap.size w.heap.size ([] : List UInt8) x.tx U1 HX.out.2.2.1 (by have := HPX.out.2; simp; omega) HX.out.1).mono ?_
        rintro e U2 ⟨rfl, hB2, hK2⟩
        have HY : Hid (OutP w2.heap.size U2 (.slice (some ⟨go, 0, none⟩) (out.length + 1) cpo) (out ++ [x]) ∧ BldF w.heap.size w.heap.size (([] : List UInt8) ++ x.tx.data.toList) U2 ∧ U2.heap[g]? = some (.cells cur 31 (0, 0)) ∧ Below w.heap.size w U2 ∧ w2.heap.size ≤ U2.heap.size) := ⟨HX.out.2.2.2.1.keep HX.out.2.2.1 hK2, hB2, cells_keepB HX.out.2.2.2.2.1 HX.out.2.2.1 hK2, HX.out.2.2.2.2.2.1.trans hK2.below, Nat.le_trans HX.out.2.2.2.2.2.2 hK2.below.size⟩
        clear hB2 hK2 qt HX
        go_wp2_with fail
        refine (b_str w.heap.size w.heap.size (([] : List UInt8) ++ x.tx.data.toList) U2 HY.out.2.1 (by have := HPX.out.1; simp [this])).mono ?_
        rintro e U3 ⟨rfl, hB3, hK3⟩
        have HZ : Hid (OutP w2.heap.size U3 (.slice (some ⟨go, 0, none⟩) (out.length + 1) cpo) (out ++ [x]) ∧ BldF w.heap.size w.heap.size (([] : List UInt8) ++ x.tx.data.toList) U3 ∧ U3.heap[g]? = some (.cells cur 31 (0, 0)) ∧ Below w.heap.size w U3 ∧ w2.heap.size ≤ U3.heap.size) := ⟨HY.out.1.keep HY.out.2.1 hK3, hB3, cells_keepB HY.out.2.2.1 HY.out.2.1 hK3, HY.out.2.2.2.1.trans hK3.below, Nat.le_trans HY.out.2.2.2.2 hK3.below.size⟩
        clear hB3 hK3 HY
        obtain ⟨cu, hcu, hcs⟩ : ∃ cu, U3.heap[go]? = some (.cells cu 31 (0, 0)) ∧ out.length * 22 + 8 < cu.size := by
          obtain ⟨ao9, cp9, e9, hh⟩ := HZ.out.1.shape
          obtain ⟨g9, h1, h2, cu, h3, h4⟩ := hh (by simp)
          simp only [Value.slice.injEq] at e9
          rw [← e9.1] at h1
          simp only [Option.some.injEq, Addr.mk.injEq] at h1
          obtain ⟨rfl, _⟩ := h1
          exact ⟨cu, h3, by simp at h4; omega⟩
        obtain ⟨old, hold⟩ : ∃ old, U3.cell? ⟨go, out.length * 22 + 8, none⟩ = some old := ⟨cu[out.length * 22 + 8], by rw [cell_of_block hcu]; simp [hcs]⟩
        have hfz : U3.frozen? ⟨go, out.length * 22 + 8, none⟩ = false := free_of_block hcu
        have HF : Hid (PInv w w2 g cur k0 P R (i + 1) (U3.setCell ⟨go, out.length * 22 + 8, none⟩ (.string ⟨(([] : List UInt8) ++ x.tx.data.toList).toArray⟩)) (.slice (some ⟨go, 0, none⟩) (out.length + 1) cpo) (out.length + 1)) := by
          have hn9 : (out.length + 1) = (out ++ [x]).length := by simp
          have hgn : w2.heap.size ≤ go := HZ.out.1.fresh go rfl
          have hGl := HG.out
          refine ⟨?_, ?_, ?_, ?_⟩
          · exact HZ.out.2.2.2.1.setCell (p := ⟨go, out.length * 22 + 8, none⟩) (by show w.heap.size ≤ go; omega) _
          · simpa [World.setCell] using HZ.out.2.2.2.2
          · rw [Below.heap_setCell _ _ _ _ (by show g ≠ go; omega)]; exact HZ.out.2.2.1
          · have hO9 := HZ.out.1
            rw [hn9] at hO9
            have h9 := hO9.setText ⟨(([] : List UInt8) ++ x.tx.data.toList).toArray⟩
            rw [← hn9] at h9
            refine ⟨_, _, by simp, h9, HZ.out.2.1.rows (others_set hcu), ?_, ?_, .inr ⟨_, _, rfl, ?_, ?_⟩⟩
            · have := HPX.out.2
              have e9 : x.tx.data.toList.length = x.tx.size := by simp
              rw [List.length_append, e9]
              try simp only [List.length_nil]
              omega
            · simp; omega
            · simp
            · rw [bytes_own]; exact HR2.out
        clear hcu hcs HZ
        go_wp2_with fail
        go_roundg (P.length - (i + 1))
        case measure => omega
        case rel => exact ⟨i + 1, some ⟨go, 0, none⟩, (out.length + 1), cpo, by omega, rfl, by go_num, HF.out⟩
    · obtain hil2 : i = P.length := by omega
      have i2 : ¬ (i : Int) < (P.length : Int) := by omega
      have HA : Hid (NewP w wx (.slice ao n cp) R) := by
        obtain ⟨out, bs, hno, hO, hB, hbl, hol, hst⟩ := HI.out.st
        have hPl0 : P.length ≠ 0 := by rw [HP.out.1]; simp
        rcases hst with ⟨h1, _⟩ | ⟨init, last, h1, h2, h3⟩
        · omega
        · rw [hil2, List.drop_length, piecesF] at h3
          have h4 : out = R := by rw [h1]; exact h3
          subst h4
          have hb := HI.out.below
          have hgg := HG.out
          exact ⟨hO.owns, ⟨hb.os, hb.tape, hb.output, hb.size, fun k hk _ => hb.block k hk⟩, fun k hk => by have := hO.fresh k hk; omega⟩
      clear hil2 HI
      go_wp2_with fail
      go_ret
      exact ⟨_, rfl, by rw [HRH.out]; exact HA.out⟩
end Go.Proofs.YtphcnjbiojdalaaGreatDoor
