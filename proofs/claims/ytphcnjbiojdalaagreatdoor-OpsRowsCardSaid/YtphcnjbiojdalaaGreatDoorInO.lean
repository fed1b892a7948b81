/- The contract of ops.inOrder. -/
import Derived.Test.YtphcnjbiojdalaaGreatDoorPart17
import Derived.Test.YtphcnjbiojdalaaGreatDoorPart14
import Derived.Laws.MakeOwn
import Derived.Deep.LoopGhost
namespace Go.Proofs.YtphcnjbiojdalaaGreatDoor
open Go.RowKit Go.Maps
set_option linter.unusedVariables false
set_option linter.unusedSimpArgs false
set_option maxRecDepth 100000

def iN (i : Nat) : Value := .int .i64 (i : Int)
def fillI (i n : Nat) : List Value := (List.range i).map iN ++ List.replicate (n - i) (iN 0)
theorem fillI_len (i n : Nat) (h : i ≤ n) : (fillI i n).length = n := by simp [fillI]; omega
theorem fillI_set (i n : Nat) (h : i < n) : (fillI i n).set i (iN i) = fillI (i + 1) n := by
  unfold fillI
  rw [List.set_append_right _ _ (by simp), show n - i = (n - (i + 1)) + 1 from by omega, List.replicate_succ]
  simp [List.range_succ]
theorem fillI_get (n j : Nat) (h : j < n) : (fillI n n)[j]? = some (iN j) := by
  unfold fillI
  simp [h]
/-- Stored over: a run of cells. -/
theorem fold_set (vs : List Value) : ∀ (k : Nat) (C : Array Value), k + vs.length ≤ C.size → ((vs.zipIdx k).foldl (fun (c : Array Value) x => c.setIfInBounds x.2 x.1) C).toList = C.toList.take k ++ vs ++ C.toList.drop (k + vs.length) := by
  induction vs with
  | nil => intro k C h; simp
  | cons v vs ih =>
    intro k C h
    rw [List.zipIdx_cons, List.foldl_cons, ih (k + 1) _ (by simp at h ⊢; omega)]
    simp only [Array.toList_setIfInBounds, List.length_cons]
    have hk : k < C.toList.length := by simp at h ⊢; omega
    have hl : (C.toList.take k).length = k := by rw [List.length_take]; omega
    rw [List.drop_set_of_lt (by omega), List.take_set, List.take_succ_eq_append_getElem hk, List.set_append_right _ _ (by omega), hl, Nat.sub_self, List.set_cons_zero]
    simp [Nat.add_assoc, Nat.add_comm 1]
theorem cellsP_set (l : List O) (i : Nat) (h : i < l.length) (x : O) : (cellsP l).take (i * 22) ++ cellP x ++ (cellsP l).drop (i * 22 + 22) = cellsP (l.set i x) := by
  have e1 : l = l.take i ++ l[i] :: l.drop (i + 1) := by
    rw [← List.drop_eq_getElem_cons h, List.take_append_drop]
  have hl : (cellsP (l.take i)).length = i * 22 := by rw [cellsP_len, List.length_take]; omega
  have e2 : l.set i x = l.take i ++ x :: l.drop (i + 1) := by
    rw [List.set_eq_take_append_cons_drop, if_pos h]
  rw [e2, cellsP_append, cellsP_cons]
  conv => lhs; rw [e1]
  rw [cellsP_append, cellsP_cons]
  rw [List.take_left' hl, ← List.drop_drop, List.drop_left' hl, List.drop_left' (cellP_len _), List.append_assoc]
/-- A row of operations in a block of its own. -/
def RowAt (w : World) (g : Nat) (l : List O) : Prop := w.heap[g]? = some (.cells (cellsP l).toArray 31 (0, 0))
theorem RowAt.run {w : World} {g : Nat} {l : List O} (h : RowAt w g l) (i : Nat) (hi : i < l.length) (vs : List Value) (hv : vs.length = 22) : (w.setCells g (i * 22) vs).heap[g]? = some (.cells ((cellsP l).take (i * 22) ++ vs ++ (cellsP l).drop (i * 22 + 22)).toArray 31 (0, 0)) := by
  rw [cells_stored h (i * 22) vs]
  have hs : (i * 22) + vs.length ≤ (cellsP l).toArray.size := by
    rw [List.size_toArray, cellsP_len]
    omega
  have e := fold_set vs (i * 22) _ hs
  rw [hv] at e
  rw [← e]
theorem RowAt.put {w : World} {g : Nat} {l : List O} (h : RowAt w g l) (i : Nat) (hi : i < l.length) (x : O) : RowAt (w.setCells g (i * 22) (cellP x)) g (l.set i x) := by
  unfold RowAt
  rw [h.run i hi (cellP x) (cellP_len x), cellsP_set l i hi x]
theorem RowAt.there {w : World} {g : Nat} {l : List O} (h : RowAt w g l) (i : Nat) (hi : i < l.length) : w.there g (i * 22) 22 :=
  there_of_block h (i * 22) 22 (by rw [List.size_toArray, cellsP_len]; omega)
theorem RowAt.range {w : World} {g : Nat} {l : List O} (h : RowAt w g l) (i : Nat) (hi : i < l.length) : w.rangeAt g (i * 22) l[i].vals.toList := by
  intro j v hv
  have hj : j < 22 := (List.getElem?_eq_some_iff.1 hv).1
  rw [cell_of_block (i := i * 22 + j) h]
  have := cellsP_get l i hi j hj
  simp only [List.getElem?_toArray]
  rw [this]; exact hv
theorem RowAt.new {W w : World} {g : Nat} {l : List O} (h : RowAt w g l) (t : Touch (fun _ => False) W w) (hg : W.heap.size ≤ g) (hl : l.length ≤ 1073741824) : NewP W w (.slice (some ⟨g, 0, none⟩) l.length l.length) l :=
  ⟨⟨cellsP_len l, .inr ⟨g, l.length, _, rfl, Nat.zero_le _, h, Nat.le_refl _, by show l.length ≤ 9223372036854775807; omega, by rw [List.size_toArray, cellsP_len], by rw [← cellsP_len, List.take_length]⟩⟩, t, fun k hk => by simp [Value.ownBlock] at hk; omega⟩
theorem made_int (n : Nat) : (madeCells (iN 0).cells (n * 1)).toList = fillI 0 n := by
  rw [Nat.mul_one]
  show (madeCells #[iN 0] n).toList = _
  apply List.ext_getElem?
  intro j
  by_cases hj : j < n
  · simp [madeCells, hj, Nat.mod_one, fillI]
  · simp [madeCells, hj, fillI]
theorem made_op (n : Nat) : (madeCells zeroO.val.cells (n * 22)).toList = cellsP (List.replicate n zeroO) := by
  have hz : zeroO.val.cells = zeroO.vals := by kernel_rfl
  have hz2 : zeroO.vals.size = 22 := rfl
  rw [hz]
  apply List.ext_getElem?
  intro j
  by_cases hj : j < n * 22
  · have hd : j / 22 < (List.replicate n zeroO).length := by rw [List.length_replicate]; omega
    have := cellsP_get (List.replicate n zeroO) (j / 22) hd (j % 22) (Nat.mod_lt _ (by omega))
    rw [show j / 22 * 22 + j % 22 = j from by omega] at this
    rw [this, List.getElem_replicate]
    have hm : j % 22 < zeroO.vals.size := by rw [hz2]; exact Nat.mod_lt _ (by omega)
    simp only [madeCells, Array.toList_map, Array.toList_range, List.getElem?_map, List.getElem?_range hj, Option.map_some, hz2]
    rw [getElem!_pos zeroO.vals (j % 22) hm]
    unfold cellP
    rw [List.getElem?_eq_getElem (by simpa using hm)]
    simp
  · rw [List.getElem?_eq_none (by simp [madeCells]; omega), List.getElem?_eq_none (by rw [cellsP_len, List.length_replicate]; omega)]
/-- The first i of them laid. -/
def laidO (l : List O) (p : List Nat) (i : Nat) : List O := (p.take i).map (atO l) ++ List.replicate (p.length - i) zeroO
theorem laidO_len (l : List O) (p : List Nat) (i : Nat) (h : i ≤ p.length) : (laidO l p i).length = p.length := by simp [laidO]; omega
theorem laidO_set (l : List O) (p : List Nat) (i : Nat) (h : i < p.length) : (laidO l p i).set i (atO l p[i]) = laidO l p (i + 1) := by
  unfold laidO
  have hl : ((p.take i).map (atO l)).length = i := by simp; omega
  have hr : List.replicate (p.length - i) zeroO = zeroO :: List.replicate (p.length - (i + 1)) zeroO := by
    rw [← List.replicate_succ]; congr 1; omega
  rw [List.set_append_right _ _ (by omega), hl, Nat.sub_self, hr, List.set_cons_zero, List.take_succ_eq_append_getElem h, List.map_append, List.append_assoc]
  rfl
theorem laidO_all (l : List O) (p : List Nat) : laidO l p p.length = p.map (atO l) := by simp [laidO]

set_option maxHeartbeats 4000000 in
theorem inOrder_any (l : List O) (hne : l ≠ []) (v : Value) (w : World) (hsl : SlP w v l) (hl : l.length ≤ 1073741824) :
    Calls Tryz.prog 53 #[v] w fun e w' => ∃ (v' : Value) (p : List Nat), e = .returned v' ∧ p.Perm (List.range l.length) ∧ p.Pairwise (fun i j => ¬ plLt l j i) ∧ NewP w w' v' (p.map (atO l)) := by
  obtain ⟨b, o, cap, rfl, hcap, hcm, hrow⟩ := hsl.row hne
  have hblt : b < w.heap.size := by
    have h0 := List.length_pos_iff.2 hne
    have := hrow 0 h0 0 (.int .u64 l[0].c) rfl
    exact World.block_lt_of_cell? _ _ this
  obtain ⟨n, hn⟩ : ∃ n, Hid (n = l.length) := ⟨_, Eq.refl _⟩
  have hn0 : 0 < n := by rw [hn.out]; exact List.length_pos_iff.2 hne
  have hn3 : n ≤ 1073741824 := by rw [hn.out]; exact hl
  have HS : Hid (∀ (W : World) (g : Nat), Touch (fun _ => False) w W → W.cell? ⟨w.heap.size, 0, none⟩ = some (.slice (some ⟨b, o, none⟩) n cap) → IntsAt W g (List.range n) → g < W.heap.size → w.heap.size < g → Calls Tryz.prog 81 #[.slice (some ⟨g, 0, none⟩) n n, .func (.func 82) #[] #[.pointer (some ⟨w.heap.size, 0, none⟩)]] W fun e w' => e = .returned (.tuple #[]) ∧ ∃ p : List Nat, p.Perm (List.range l.length) ∧ p.Pairwise (fun i j => ¬ plLt l j i) ∧ IntsAt w' g p ∧ Touch (· = g) W w') := by
    intro W g t hB hI hg hgw
    rw [hn.out] at hB hI ⊢
    have hL : ∀ j (h : j < l.length), W.rangeAt b (o + j * 22) l[j].vals.toList := fun j h i u hu => by
      have := hrow j h i u hu
      rw [World.cell?_of_block (t.block _ hblt id)]; exact this
    exact sortPl_any l hne w.heap.size b o cap W hB hL g l.length hI hg (by omega) (by omega) hl
  obtain ⟨i1, hi1, hz0, hz1, hz2⟩ := info_parts (show (Tryz.prog.info? 3).map (fun i => (i.zero, i.size, i.bytes)) = some (some (iN 0), 1, 8) from by kernel_rfl)
  obtain ⟨i2, hi2, hy0, hy1, hy2⟩ := info_parts infoP
  obtain ⟨Z1, hZ1⟩ : ∃ Z1, Hid (Z1 = madeCells (iN 0).cells (n * 1)) := ⟨_, Eq.refl _⟩
  obtain ⟨Z2, hZ2⟩ : ∃ Z2, Hid (Z2 = madeCells zeroO.val.cells (n * 22)) := ⟨_, Eq.refl _⟩
  have hmk1 : ∀ W : World, (Instr.makeSlice 98 (.int .i64 (n : Int)) (.int .i64 (n : Int))).run Tryz.prog W = .ok (.slice (some ⟨W.heap.size, 0, none⟩) n n) (W.alloc (.cells Z1 3)) := fun W => by
    have := run_make W 98 3 i1 (iN 0) Tryz.underlying98 hi1 hz0 .i64 .i64 (n : Int) (n : Int) (by omega) (by omega) (by rw [hz2]; omega) (by omega)
    rw [this, hz1, hZ1.out]; rfl
  have hmk2 : ∀ W : World, (Instr.makeSlice 45 (.int .i64 (n : Int)) (.int .i64 (n : Int))).run Tryz.prog W = .ok (.slice (some ⟨W.heap.size, 0, none⟩) n n) (W.alloc (.cells Z2 31)) := fun W => by
    have := run_make W 45 31 i2 zeroO.val Tryz.underlying45 hi2 hy0 .i64 .i64 (n : Int) (n : Int) (by omega) (by omega) (by rw [hy2]; omega) (by omega)
    rw [this, hy1, hZ2.out]; rfl
  have HZ1 : Hid (Z1 = (fillI 0 n).toArray) := by
    apply Array.ext'
    rw [hZ1.out]; exact made_int n
  have HZ2 : Hid (Z2 = (cellsP (List.replicate n zeroO)).toArray) := by
    apply Array.ext'
    rw [hZ2.out]; exact made_op n
  have HR : Hid (∀ j (h : j < l.length), w.rangeAt b (o + j * 22) l[j].vals.toList) := hrow
  have HL : Hid (b < w.heap.size) := hblt
  rw [← hn.out]
  clear hZ1 hZ2 hi1 hz0 hz1 hz2 hi2 hy0 hy1 hy2 hsl hrow hcap hcm hblt hl hne
  have HN : Hid (n = l.length) := hn.out
  clear hn
  go_enter Tryz.func53, Tryz.ntmps53
  go_wp2_with fail
  obtain ⟨W1, hW1⟩ : ∃ W1, Hid (W1 = (w.alloc (.cells #[.slice (some ⟨b, o, none⟩) n cap] 45)).alloc (.cells Z1 3)) := ⟨_, Eq.refl _⟩
  have HW : Hid (Touch (fun _ => False) w W1 ∧ W1.heap[w.heap.size]? = some (.cells #[.slice (some ⟨b, o, none⟩) n cap] 45 (0, 0)) ∧ W1.heap[w.heap.size + 1]? = some (.cells (fillI 0 n).toArray 3 (0, 0))) := by
    rw [hW1.out]
    refine ⟨((Touch.refl _ _).alloc _).alloc _, (heap_two w _ _).1, ?_⟩
    rw [(heap_two w _ _).2, HZ1.out]
  first | rw [← hW1.out] | skip
  clear hW1
  go_loopg [13] n (fun gk s13 wx => ∃ i : Nat, i + gk = n ∧ s13 = .int .i64 (i : Int) ∧ Hid (Touch (fun _ => False) w wx ∧ wx.heap[w.heap.size]? = some (.cells #[.slice (some ⟨b, o, none⟩) n cap] 45 (0, 0)) ∧ wx.heap[w.heap.size + 1]? = some (.cells (fillI i n).toArray 3 (0, 0))))
  case atStart => exact ⟨0, by omega, rfl, HW.out⟩
  case round =>
    obtain ⟨i, hig, rfl, HI⟩ := hrel
    obtain ⟨wo, hwo⟩ : ∃ wo, wo = wr := ⟨_, rfl⟩
    subst hwo
    by_cases hin : i < n
    · have i1 : (0 : Int) ≤ (i : Int) := by omega
      have i2 : (i : Int) < (n : Int) := by omega
      have hsz : i < (fillI i n).toArray.size := by rw [List.size_toArray, fillI_len i n (by omega)]; exact hin
      have q0 : ∃ x, wo.cell? ⟨w.heap.size + 1, i, none⟩ = some x := ⟨(fillI i n).toArray[i], by rw [cell_of_block HI.out.2.2]; simp⟩
      obtain ⟨x0, q0⟩ := q0
      have z0 : wo.frozen? ⟨w.heap.size + 1, i, none⟩ = false := free_of_block HI.out.2.2
      have HI2 : Hid (Touch (fun _ => False) w (wo.setCell ⟨w.heap.size + 1, i, none⟩ (.int .i64 (i : Int))) ∧ (wo.setCell ⟨w.heap.size + 1, i, none⟩ (.int .i64 (i : Int))).heap[w.heap.size]? = some (.cells #[.slice (some ⟨b, o, none⟩) n cap] 45 (0, 0)) ∧ (wo.setCell ⟨w.heap.size + 1, i, none⟩ (.int .i64 (i : Int))).heap[w.heap.size + 1]? = some (.cells (fillI (i + 1) n).toArray 3 (0, 0))) := by
        refine ⟨HI.out.1.setCell _ _ (fun h => absurd h (by simp)), ?_, ?_⟩
        · rw [Below.heap_setCell _ _ _ _ (by simp)]; exact HI.out.2.1
        · rw [heap_setCell_same _ _ _ _ HI.out.2.2, List.setIfInBounds_toArray]
          have := fillI_set i n hin
          unfold iN at this
          rw [this]
      clear hsz
      go_wp2_with fail
      go_roundg (n - (i + 1))
      case measure => omega
      case rel => exact ⟨i + 1, by omega, by go_num, HI2.out⟩
    · obtain rfl : i = n := by omega
      have HIN : Hid (IntsAt wo (w.heap.size + 1) (List.range i)) := fun j hj => by
        have hj' : j < i := by simpa using hj
        refine ⟨?_, free_of_block HI.out.2.2⟩
        rw [cell_of_block HI.out.2.2]
        have := fillI_get i j hj'
        simp only [List.getElem?_toArray, this, List.getElem_range]
        rfl
      have hB : wo.cell? ⟨w.heap.size, 0, none⟩ = some (.slice (some ⟨b, o, none⟩) i cap) := by rw [cell_of_block HI.out.2.1]; rfl
      clear hmk1
      go_wp2_with fail
      refine (HS.out wo (w.heap.size + 1) HI.out.1 hB HIN.out (lt_of_heap HI.out.2.2) (by omega)).mono ?_
      rintro e w3 ⟨rfl, p, hp1, hp2, hp3, hp4⟩
      have HT3 : Hid (Touch (fun _ => False) w w3) := HI.out.1.then hp4 (fun k hk e => by omega)
      have hpl : p.length = l.length := by have := hp1.length_eq; simpa using this
      have HB3 : Hid (w3.heap[w.heap.size]? = some (.cells #[.slice (some ⟨b, o, none⟩) i cap] 45 (0, 0))) := (hp4.block _ (lt_of_heap HI.out.2.1) (by omega)).trans HI.out.2.1
      have HP : Hid (p.Perm (List.range l.length) ∧ p.Pairwise (fun i j => ¬ plLt l j i) ∧ IntsAt w3 (w.heap.size + 1) p ∧ p.length = l.length) := ⟨hp1, hp2, hp3, hpl⟩
      have HPN : Hid (i = p.length) := by show i = p.length; rw [hpl]; exact HN.out
      have hG3 : w.heap.size + 1 < w3.heap.size := Nat.lt_of_lt_of_le (lt_of_heap HI.out.2.2) hp4.size
      have hB3 : w3.cell? ⟨w.heap.size, 0, none⟩ = some (.slice (some ⟨b, o, none⟩) i cap) := by rw [cell_of_block HB3.out]; rfl
      clear hp1 hp2 hp3 hp4 hpl HS hB HIN HI
      go_wp2_with fail
      obtain ⟨W4, hW4⟩ : ∃ W4, Hid (W4 = w3.alloc (.cells Z2 31)) := ⟨_, Eq.refl _⟩
      have H4 : Hid (Touch (fun _ => False) w3 W4 ∧ RowAt W4 w3.heap.size (laidO l p 0)) := by
        rw [hW4.out]
        refine ⟨(Touch.refl _ _).alloc _, ?_⟩
        unfold RowAt
        rw [heap_alloc_new, HZ2.out]
        have : laidO l p 0 = List.replicate i zeroO := by unfold laidO; rw [HPN.out]; simp
        rw [this]
      first | rw [← hW4.out] | skip
      clear hW4 hB3 hmk2
      go_loopg [29] i (fun gk s29 wx => ∃ j : Nat, j + gk = i ∧ s29 = .int .i64 (j : Int) ∧ Hid (Touch (fun _ => False) w3 wx ∧ RowAt wx w3.heap.size (laidO l p j)))
      case atStart => exact ⟨0, by omega, rfl, H4.out⟩
      case round =>
        obtain ⟨j, hjg, rfl, HJ⟩ := hrel
        obtain ⟨wx, hwx⟩ : ∃ wx, wx = wr := ⟨_, rfl⟩
        subst hwx
        by_cases hji : j < i
        · have j1 : (0 : Int) ≤ (j : Int) := by omega
          have j2 : (j : Int) < (i : Int) := by omega
          have hjp : j < p.length := by rw [← HPN.out]; exact hji
          have hmem : p[j] < l.length := by
            have := HP.out.1.subset (List.getElem_mem hjp)
            simpa using this
          have hx : wx.cell? ⟨w.heap.size + 1, j, none⟩ = some (.int .i64 (p[j] : Int)) := by
            rw [World.cell?_of_block (HJ.out.1.block _ hG3 id)]; exact (HP.out.2.2.1 j hjp).1
          have hB5 : wx.cell? ⟨w.heap.size, 0, none⟩ = some (.slice (some ⟨b, o, none⟩) i cap) := by
            rw [World.cell?_of_block (HJ.out.1.block _ (lt_of_heap HB3.out) id), cell_of_block HB3.out]; rfl
          have HRR : Hid (wx.rangeAt b (o + p[j] * 22) (atO l p[j]).vals.toList) := by
            intro t u hu
            rw [atO_of hmem] at hu
            have := HR.out p[j] hmem t u hu
            rw [World.cell?_of_block ((HT3.out.trans HJ.out.1).block _ HL.out id)]; exact this
          have hlen : (laidO l p j).length = p.length := laidO_len l p j (by omega)
          have HTh : Hid (wx.there w3.heap.size (j * 22) 22) := HJ.out.2.there j (by omega)
          have HQ : Hid (Touch (fun _ => False) w3 (wx.setCells w3.heap.size (j * 22) (atO l p[j]).vals.toList) ∧ RowAt (wx.setCells w3.heap.size (j * 22) (atO l p[j]).vals.toList) w3.heap.size (laidO l p (j + 1))) := by
            refine ⟨HJ.out.1.stored (Nat.le_refl _) _ _, ?_⟩
            have := HJ.out.2.put j (by omega) (atO l p[j])
            rw [laidO_set l p j hjp] at this
            exact this
          have hpi : (p[j] : Int) < (i : Int) := by have := HN.out; omega
          have hp0 : (0 : Int) ≤ (p[j] : Int) := by omega
          clear hlen hmem HJ
          generalize p[j] = pj at *
          generalize atO l pj = x at *
          clear hjp
          go_upto_region 12 with fail
          refine wp_region_lit ?_
          refine wpList_plain rfl fun K hK => ?_
          go_simp
          refine hK _ _ ?_
          clear hK K
          refine wpList_plain rfl fun K hK => ?_
          go_simp
          refine hK _ _ ?_
          clear hK K
          refine wpList_plain rfl fun K hK => ?_
          go_simp
          refine hK _ _ ?_
          clear hK K
          refine wpList_plain rfl fun K hK => ?_
          go_simp
          refine hK _ _ ?_
          clear hK K
          refine wpList_plain rfl fun K hK => ?_
          go_simp
          refine hK _ _ ?_
          clear hK K
          refine wpList_load_mid rfl 31 (.tmp 38) rfl b (o + pj * 22) rfl x.vals.toList _ HRR.out Tryz.underlying31 rfl (by kernel_rfl) ?_
          simp only [Act.put, List.setIfInBounds_toArray, List.set_cons_succ, List.set_cons_zero]
          refine wpList_plain rfl fun K hK => ?_
          go_simp
          refine hK _ _ ?_
          clear hK K
          refine wpList_store_mid rfl 31 (.tmp 40) (.tmp 39) rfl w3.heap.size (j * 22) x.vals rfl rfl HTh.out (by kernel_rfl) (by kernel_rfl) ?_
          simp only [Act.put]
          obtain ⟨W6, hW6⟩ : ∃ W6, Hid (W6 = wx.setCells w3.heap.size (j * 22) x.vals.toList) := ⟨_, Eq.refl _⟩
          rw [← hW6.out] at HQ ⊢
          clear hW6 HTh HRR hx hB5
          go_wp2_with fail
          go_roundg (i - (j + 1))
          case measure => omega
          case rel => exact ⟨j + 1, by omega, by go_num, HQ.out⟩
        · obtain rfl : j = i := by omega
          have HF : Hid (NewP w wx (.slice (some ⟨w3.heap.size, 0, none⟩) j j) (p.map (atO l))) := by
            have h1 := HJ.out.2
            rw [HPN.out, laidO_all] at h1
            have h2 := h1.new (HT3.out.trans HJ.out.1) HT3.out.size (by rw [List.length_map, ← HPN.out]; exact hn3)
            rw [List.length_map, ← HPN.out] at h2
            exact h2
          clear HJ
          go_wp2_with fail
          go_ret
          exact ⟨_, p, rfl, by rw [HN.out]; exact HP.out.1, HP.out.2.1, HF.out⟩
end Go.Proofs.YtphcnjbiojdalaaGreatDoor
