/- For every operation, cuts and turn quirelaw8.OpsPieces answers true: the walk. -/
import Derived.Test.YtphcnjbiojdalaaGreatDoorPart21
import Derived.Test.YtphcnjbiojdalaaGreatDoorKnown8
import Derived.Test.YtphcnjbiojdalaaGreatDoorPart22
import Derived.Test.YtphcnjbiojdalaaGreatDoorPart17
import Derived.Deep.RegionHeld3
import Derived.Deep.MidRow
namespace Go.Proofs.YtphcnjbiojdalaaGreatDoor
open Go.RowKit
set_option linter.unusedVariables false
set_option linter.unusedSimpArgs false
set_option maxRecDepth 100000

theorem Up.snoc {a e : Nat} (he : a < e) : ∀ {i : Nat} {r : List Nat}, Up a i r → Up e i (r ++ [e])
  | i, [], h => by
    have h' : i = a := h
    exact ⟨by omega, rfl⟩
  | _, j :: r, h => ⟨h.1, Up.snoc he h.2⟩
theorem cuts_snoc (o : O) (e : Nat) {a : Nat} : ∀ {i : Nat} {r : List Nat}, Up a i r → cutsO o i (r ++ [e]) = cutsO o i r ++ [pieceO o a e]
  | i, [], h => by
    have h' : i = a := h
    subst h'
    rfl
  | _, j :: r, h => by
    show pieceO o _ j :: cutsO o j (r ++ [e]) = pieceO o _ j :: (cutsO o j r ++ [pieceO o a e])
    rw [cuts_snoc o e h.2]
theorem cutsO_len (o : O) : ∀ (i : Nat) (r : List Nat), (cutsO o i r).length = r.length
  | _, [] => rfl
  | _, j :: r => by show _ + 1 = _ + 1; rw [cutsO_len o j r]
theorem Up.len {n : Nat} : ∀ {i : Nat} {r : List Nat}, Up n i r → i + r.length ≤ n
  | i, [], h => by have h' : i = n := h; simp; omega
  | i, j :: r, h => by have := Up.len h.2; have := h.1; rw [List.length_cons]; omega
/-- What is asked of the pieces. -/
structure PcsAll (w : World) (o : O) (n : Nat) : Prop where
  cut : ∀ i j, i < j → j ≤ n → ∀ W, Touch (fun _ => False) w W → Calls Tryz.prog 14 #[o.val, .int .i64 (i : Int), .int .i64 (j : Int)] W fun r w' => r = .returned (.tuple #[(pieceO o i j).val, .bool true]) ∧ Touch (fun _ => False) W w'
  jo : ∀ r, Up n 0 r → ∀ L : List O, L.Perm (cutsO o 0 r) → ∀ W v, Touch (fun _ => False) w W → SlP W v L → Calls Tryz.prog 23 #[v] W fun r w' => ∃ ao cap, r = .returned (.slice ao 1 cap) ∧ Touch (fun _ => False) W w' ∧ SlP w' (.slice ao 1 cap) [o]
theorem pcs_all (o : O) (hf : o.fits) (s1 : o.tx.size ≤ 20000) (s2 : o.ky.size ≤ 200) (s3 : o.vs.size ≤ 6000) (hc : checkB o = true) (k1 : o.kind = 1) (w : World) (hU : TabsU w) : PcsAll w o (lenO o) := by
  have hT := textO_of hf (by omega) k1 hc
  have hn1 := hT.n1
  have hn2 := hT.n2
  have hvf := hf.vf
  refine ⟨?_, ?_⟩
  · intro i j h1 h2 W t
    have c := hT.cut i j h1 h2
    have := ops_cut o (i : Int) (j : Int) (by omega) W (hU.keep t)
    rw [c.1, c.2] at this
    exact this
  · intro r hr L hp W v t hv
    cases r with
    | nil =>
      have h' : 0 = lenO o := hr
      omega
    | cons e r =>
      have hck := cuts_check hf (by omega) k1 hc hr
      have hj := cuts_join hf (by omega) k1 hc e r hr
      have hLk : ∀ p ∈ L, checkB p = true ∧ p.tx.size ≤ 1000000 ∧ p.ky = o.ky ∧ p.vs = o.vs ∧ p.vf = o.vf := fun p hp' => hck p (hp.mem_iff.1 hp')
      have hfl : L.filter checkB = L := List.filter_eq_self.2 fun p hp' => (hLk p hp').1
      have hlen : (rsO o).length ≤ 4096 := by rw [← hT.len]; exact hn2
      have hL1 : L.length ≤ 4096 := by
        rw [hp.length_eq, cutsO_len]
        have := hr.len
        omega
      refine (join_any L (pieceO o 0 e) (cutsO o e r) 0 v W (hU.keep t) hv (by omega) ?_ ?_ hj.1 hj.2.1 ?_ (by omega)).mono ?_
      · intro z hz
        obtain ⟨_, z1, z2, z3, z4⟩ := hLk z hz
        exact ⟨z1, by rw [z2]; omega, by rw [z3]; omega, by rw [z4]; exact hvf⟩
      · rw [hfl]
        exact hp.symm
      · rw [hj.2.2.1]
        omega
      · rintro x w' ⟨v', rfl, hN⟩
        rw [hj.2.2.1, hj.2.2.2] at hN
        obtain ⟨ao, cap, e1, _⟩ := hN.sl
        have h3 := hN.sl
        have h4 := hN.touch
        subst e1
        exact ⟨ao, cap, rfl, h4, h3⟩
theorem SlP.lit1p (W : World) (x : O) : SlP (W.alloc (opO x)) (.slice (some ⟨W.heap.size, 0, none⟩) 1 1) [x] := ⟨_, _, rfl, (fun h => by cases h), Nat.le_refl _, by decide, LiesP.new W x⟩
theorem ite_of_pos {c : Prop} [Decidable c] {X Y : Prop} (hc : c) (h : X) : if c then X else Y := by rw [if_pos hc]; exact h
theorem NewP.rangeOf {W w : World} {l : List O} {g n cap : Nat} (h : NewP W w (.slice (some ⟨g, 0, none⟩) n cap) l) (hn : l.length = n) (q : Nat) (hq : q < l.length) : w.rangeAt g (0 + q * 22) l[q].vals.toList := by
  obtain ⟨b, o', cap', e, _, _, hr'⟩ := h.sl.row (by intro e; rw [e] at hq; cases hq)
  simp only [Value.slice.injEq, Option.some.injEq, Addr.mk.injEq] at e
  obtain ⟨⟨rfl, rfl, _⟩, _, _⟩ := e
  exact hr' q hq
theorem NewP.thereOf {W w : World} {l : List O} {g n cap : Nat} (h : NewP W w (.slice (some ⟨g, 0, none⟩) n cap) l) (hn : l.length = n) (q : Nat) (hq : q < l.length) (x : O) : w.there g (0 + q * 22) x.vals.size := fun i hi => by
  refine ⟨?_, h.free (by rw [hn]) (by omega) _⟩
  have hi' : i < l[q].vals.toList.length := hi
  rw [h.rangeOf hn q hq i _ (List.getElem?_eq_getElem hi')]
  rfl
set_option maxHeartbeats 16000000 in
theorem opsPieces_any (w : World) (o : O) (hf : o.fits) (g : Nat) (ao : Option Addr) (bs : List UInt8) (nn cap : Nat) (hn : nn = bs.length) (hno : ao = none → cap = 0) (hL : Lies w g ao bs) (hg : bs ≠ [] → g < w.heap.size) (hl : bs.length ≤ 9223372036854775807) (tt : Int) (hU : TabsU w) :
    Calls Tryz.prog 7 #[o.val, .slice ao nn cap, .int .i64 tt] w fun e w' => e = .returned (.bool true) ∧ Touch (fun _ => False) w w' := by
  have HB : Hid (∀ i, i < nn → ∃ (off b : Nat), ao = some ⟨g, off, none⟩ ∧ b < 256 ∧ ∀ W, Touch (fun _ => False) w W → W.cell? ⟨g, off + i, none⟩ = some (.int .u8 (b : Int))) := fun i hi => by
    rw [hn] at hi
    rcases hL with e | ⟨off, e, hc⟩
    · rw [e] at hi; cases hi
    · refine ⟨off, bs[i].toNat, e, bs[i].toNat_lt, fun W t => ?_⟩
      rw [World.cell?_of_block (t.block _ (hg (by intro e'; rw [e'] at hi; cases hi)) id)]
      exact hc i hi
  have HKn : Hid (∀ W, Touch (fun _ => False) w W → Calls Tryz.prog 9 #[] W fun e w' => e = .returned (.bool true) ∧ Touch (fun _ => False) W w') := fun W t => known_any W (hU.keep t)
  have HLi : Hid (∀ W, Touch (fun _ => False) w W → Calls Tryz.prog 10 #[o.val] W fun e w' => e = .returned (.bool (lightB o)) ∧ Touch (fun _ => False) W w') := fun W t => light_any o W
  have HLt : Hid (lightB o = true → o.tx.size ≤ 20000 ∧ o.ky.size ≤ 200 ∧ o.vs.size ≤ 6000) := fun h => (light_iff o).1 h
  have HFu : Hid (o.fits ∧ TabsU w) := ⟨hf, hU⟩
  clear hf hU hL hg hl hn hno
  generalize lightB o = lb at *
  go_enter Tryz.func7, Tryz.ntmps7
  go_upto_region 1 with fail
  obtain ⟨W0, hW0⟩ : ∃ W0, Hid (W0 = w.alloc (opO o)) := ⟨_, Eq.refl _⟩
  have HW0 : Hid (Touch (fun _ => False) w W0 ∧ OpAt w.heap.size o W0 ∧ True) := by rw [hW0.out]; exact ⟨(Touch.refl _ _).alloc _, heap_alloc_new _ _, trivial⟩
  rw [← hW0.out]
  clear hW0
  go_wp2_with fail
  refine (HKn.out _ HW0.out.1).mono ?_
  rintro e W1 ⟨rfl, t⟩
  have HW1 : Hid (Touch (fun _ => False) w W1 ∧ OpAt w.heap.size o W1 ∧ True) := ⟨HW0.out.1.trans t, HW0.out.2.1.keep t, trivial⟩
  clear t HW0
  go_upto_region 3 with fail
  refine wp_region_lit ?_
  refine wpList_load_mid rfl 31 (.tmp 3) rfl w.heap.size 0 rfl o.vals.toList _ (rangeAt_of HW1.out.2.1) Tryz.underlying31 rfl (by kernel_rfl) ?_
  simp only [Act.put, List.setIfInBounds_toArray, List.set_cons_succ, List.set_cons_zero]
  refine wpList_plain rfl fun K hK => ?_
  go_simp
  refine (HLi.out _ HW1.out.1).mono ?_
  rintro e W2 ⟨rfl, t⟩
  have HW2 : Hid (Touch (fun _ => False) w W2 ∧ OpAt w.heap.size o W2 ∧ True) := ⟨HW1.out.1.trans t, HW1.out.2.1.keep t, trivial⟩
  clear t HW1
  refine hK _ _ ?_
  clear hK K
  refine wpList_plain rfl fun K hK => ?_
  go_simp
  refine hK _ _ ?_
  clear hK K
  refine wpList_plain rfl fun K hK => ?_
  go_simp
  refine hK _ _ ?_
  clear hK K
  cases lb
  · go_wp2_with fail
    go_ret
    exact ⟨rfl, HW2.out.1⟩
  obtain ⟨s1, s2, s3⟩ := HLt.out rfl
  have HCa : Hid (∀ W, Touch (fun _ => False) w W → Calls Tryz.prog 12 #[o.val] W fun e w' => e = .returned (.int .i64 (opErr (rchk o))) ∧ Touch (fun _ => False) W w') := fun W t => ref_checkO o ⟨by omega, by omega, by omega⟩ W
  have HLn : Hid (∀ W, Touch (fun _ => False) w W → Calls Tryz.prog 13 #[o.val] W fun e w' => e = .returned (.int .i64 (lenO o : Int)) ∧ Touch (fun _ => False) W w') := fun W t => ref_lenO o (by omega) W
  have HAll : Hid (rchk o = true → o.kind = 1 → PcsAll w o (lenO o) ∧ 1 ≤ lenO o ∧ lenO o ≤ 4096) := fun h k1 => by
    have hc : checkB o = true := by rw [chk_eq o HFu.out.1 (by omega)]; exact h
    have hT := textO_of HFu.out.1 (by omega) k1 hc
    exact ⟨pcs_all o HFu.out.1 s1 s2 s3 hc k1 w HFu.out.2, hT.n1, hT.n2⟩
  have HSm : Hid (∀ W v1 v2, SlP W v1 [o] → SlP W v2 [o] → Calls Tryz.prog 22 #[v1, v2] W fun e w' => e = .returned (.bool true) ∧ Touch (fun _ => False) W w') := fun W v1 v2 h1 h2 => sameAll_any [o] [o] (by simp) rfl v1 v2 W h1 h2 (by simp) (by simpa using HFu.out.1.vf) (by simpa using HFu.out.1.vf) (fun j _ _ => same_same _)
  clear s1 s2 s3
  have o1 : opErr true = 0 := rfl
  have o2 : opErr false = 120 := rfl
  generalize rchk o = ca at *
  generalize lenO o = n at *
  refine wpList_step fun K hK => ?_
  rw [if_pos (by kernel_rfl)]
  refine wp_load_mid 31 (.tmp 3) rfl w.heap.size 0 rfl o.vals.toList _ (rangeAt_of HW2.out.2.1) Tryz.underlying31 rfl (by kernel_rfl) (hK _ _ ?_)
  clear hK K
  simp only [Act.put, List.setIfInBounds_toArray, List.set_cons_succ, List.set_cons_zero]
  refine wpList_step fun K hK => ?_
  rw [if_pos (by kernel_rfl)]
  go_simp
  refine (HCa.out _ HW2.out.1).mono ?_
  rintro e W3 ⟨rfl, t⟩
  have HW3 : Hid (Touch (fun _ => False) w W3 ∧ OpAt w.heap.size o W3 ∧ True) := ⟨HW2.out.1.trans t, HW2.out.2.1.keep t, trivial⟩
  clear t HW2
  refine hK _ _ ?_
  clear hK K
  cases ca
  · go_wp2_with fail
    go_ret
    exact ⟨rfl, HW3.out.1⟩
  have q2 : W3.cell? ⟨w.heap.size, 2, none⟩ = some (.int .i64 o.kind) := by rw [cell_of_block HW3.out.2.1]; rfl
  by_cases hc40 : nn ≤ 40
  rotate_left
  · have c40 : ¬ (nn : Int) ≤ 40 := by omega
    clear hc40
    go_wp2_with fail
    go_ret
    exact ⟨rfl, HW3.out.1⟩
  have c40 : (nn : Int) ≤ 40 := by omega
  clear hc40
  by_cases k1 : o.kind = 1
  rotate_left
  · have kb : (o.kind != 1) = true := by simp [k1]
    go_wp2_with fail
    go_ret
    exact ⟨rfl, HW3.out.1⟩
  rw [k1] at q2
  obtain ⟨hpc, hn1, hn2⟩ := HAll.out rfl k1
  have HP : Hid (PcsAll w o n) := hpc
  clear HAll hpc k1
  go_upto_region 5 with fail
  refine wp_region_lit ?_
  clear q2
  refine wpList_load_mid rfl 31 (.tmp 3) rfl w.heap.size 0 rfl o.vals.toList _ (rangeAt_of HW3.out.2.1) Tryz.underlying31 rfl (by kernel_rfl) ?_
  simp only [Act.put, List.setIfInBounds_toArray, List.set_cons_succ, List.set_cons_zero]
  refine wpList_plain rfl fun K hK => ?_
  go_simp
  refine (HLn.out _ HW3.out.1).mono ?_
  rintro e W4 ⟨rfl, t⟩
  have HW4 : Hid (Touch (fun _ => False) w W4 ∧ OpAt w.heap.size o W4 ∧ True) := ⟨HW3.out.1.trans t, HW3.out.2.1.keep t, trivial⟩
  clear t HW3
  refine hK _ _ ?_
  clear hK K
  refine wpList_plain rfl fun K hK => ?_
  go_simp
  refine hK _ _ ?_
  clear hK K
  clear HCa HLi HKn HLn HLt o1 o2
  go_wp2_with fail
  go_loopg [8, 9, 10] n (fun gk s8 s9 s10 wx => ∃ (r : List Nat) (a i : Nat) (ao2 : Option Addr) (cp : Nat), a + gk = n ∧ s8 = .slice ao2 i cp ∧ s9 = .int .i64 (a : Int) ∧ s10 = .int .i64 (i : Int) ∧ i ≤ a ∧ Hid (Up a 0 r ∧ r.length = i ∧ NewP W4 wx (.slice ao2 i cp) (cutsO o 0 r)))
  case atStart => exact ⟨[], 0, 0, none, 0, by omega, rfl, rfl, rfl, by omega, rfl, rfl, NewP.nil _ _ (Touch.refl _ _)⟩
  case round =>
    obtain ⟨r, a, i, ao2, cp, hig, rfl, rfl, rfl, hia, HI⟩ := hrel
    obtain ⟨X0, hX0⟩ : ∃ X, X = wr := ⟨_, rfl⟩
    subst hX0
    have HX0 : Hid (Touch (fun _ => False) w X0 ∧ OpAt w.heap.size o X0 ∧ True) := ⟨HW4.out.1.trans HI.out.2.2.touch, HW4.out.2.1.keep HI.out.2.2.touch, trivial⟩
    by_cases han : a < n
    · have a1 : (a : Int) < (n : Int) := by omega
      have hbs : ∀ (x : O) (W : World), (Instr.buildSlice 45 1 #[(0, x.val)]).run Tryz.prog W = .ok (.slice (some ⟨W.heap.size, 0, none⟩) 1 1) (W.alloc (opO x)) := run_build1
      by_cases hin : i < nn
      · have i1 : (i : Int) < (nn : Int) := by omega
        have i0 : (0 : Int) ≤ (i : Int) := by omega
        obtain ⟨off, bv, rfl, hbv, hcell⟩ := HB.out i hin
        have hb := hcell X0 HX0.out.1
        clear hcell
        obtain ⟨c9, hc9⟩ : ∃ c : Nat, c = bv % 9 := ⟨_, rfl⟩
        have m9 : Int.tmod (bv : Int) 9 = (c9 : Int) := by rw [Int.tmod_eq_emod_of_nonneg (by omega)]; omega
        have hc9' : c9 < 9 := by omega
        have v1 : IntKind.i64.wrap (bv : Int) = (bv : Int) := wrap_i64_small _ (by omega) (by omega)
        have v2 : IntKind.i64.wrap (c9 : Int) = (c9 : Int) := wrap_i64_small _ (by omega) (by omega)
        have v3 : IntKind.i64.wrap ((a : Int) + 1) = (a : Int) + 1 := wrap_i64_small _ (by omega) (by omega)
        have v4 : IntKind.i64.wrap ((a : Int) + 1 + (c9 : Int)) = (a : Int) + 1 + (c9 : Int) := wrap_i64_small _ (by omega) (by omega)
        obtain ⟨e, he⟩ : ∃ e : Nat, e = min n (a + 1 + c9) := ⟨_, rfl⟩
        have hme : min (n : Int) ((a : Int) + 1 + (c9 : Int)) = (e : Int) := by omega
        have hae : a < e := by omega
        have hen : e ≤ n := by omega
        clear hc9 hc9' hbv he
        have HCU : Hid (∀ W, Touch (fun _ => False) w W → Calls Tryz.prog 14 #[o.val, .int .i64 (a : Int), .int .i64 (e : Int)] W fun r w' => r = .returned (.tuple #[(pieceO o a e).val, .bool true]) ∧ Touch (fun _ => False) W w') := HP.out.cut a e hae hen
        have HI0 : Hid (Up e 0 (r ++ [e]) ∧ cutsO o 0 (r ++ [e]) = cutsO o 0 r ++ [pieceO o a e]) := ⟨HI.out.1.snoc hae, cuts_snoc o e HI.out.1⟩
        generalize pieceO o a e = x at *
        go_upto_region 14 with fail
        try rw [hme]
        refine wp_region_lit ?_
        refine wpList_load_mid rfl 31 (.tmp 3) rfl w.heap.size 0 rfl o.vals.toList _ (rangeAt_of HX0.out.2.1) Tryz.underlying31 rfl (by kernel_rfl) ?_
        simp only [Act.put, List.setIfInBounds_toArray, List.set_cons_succ, List.set_cons_zero]
        refine wpList_plain rfl fun K hK => ?_
        go_simp
        refine hK _ _ ?_
        clear hK K
        refine wpList_plain rfl fun K hK => ?_
        go_simp
        refine hK _ _ ?_
        clear hK K
        refine wpList_plain rfl fun K hK => ?_
        go_simp
        refine (HCU.out _ HX0.out.1).mono ?_
        rintro e' X1 ⟨rfl, t⟩
        have HT1 : Hid (Touch (fun _ => False) X0 X1) := t
        have HX1 : Hid (Touch (fun _ => False) w X1 ∧ OpAt w.heap.size o X1 ∧ True) := ⟨HX0.out.1.trans t, HX0.out.2.1.keep t, trivial⟩
        clear t HX0
        refine hK _ _ ?_
        clear hK K
        refine wpList_plain rfl fun K hK => ?_
        go_simp
        refine hK _ _ ?_
        clear hK K
        refine wpList_plain rfl fun K hK => ?_
        go_simp
        refine hK _ _ ?_
        clear hK K
        refine wpList_plain rfl fun K hK => ?_
        go_simp
        refine hK _ _ ?_
        clear hK K
        refine wpList_plain rfl fun K hK => ?_
        go_simp
        refine hK _ _ ?_
        clear hK K
        have hz : OpAt X1.heap.size zeroO (X1.alloc (.cells #[.int .u64 0, .int .u64 0, .int .i64 0, .int .u64 0, .int .u64 0, .int .u64 0, .int .u64 0, .int .u64 0, .string ⟨#[]⟩, .int .i64 0, .int .i64 0, .float .f64 0, .string ⟨#[]⟩, .string ⟨#[]⟩, .int .u64 0, .int .u64 0, .int .u64 0, .int .u64 0, .bool false, .int .u64 0, .int .u64 0, .bool false] 31)) := heap_alloc_new _ _
        refine wpList_store_mid rfl 31 (.tmp 12) (.tmp 64) rfl X1.heap.size 0 x.vals rfl rfl (hz.there 0 22 (by decide)) (by kernel_rfl) (by kernel_rfl) ?_
        simp only [Act.put]
        obtain ⟨X2, hW⟩ : ∃ W, Hid (W = (X1.alloc (.cells #[.int .u64 0, .int .u64 0, .int .i64 0, .int .u64 0, .int .u64 0, .int .u64 0, .int .u64 0, .int .u64 0, .string ⟨#[]⟩, .int .i64 0, .int .i64 0, .float .f64 0, .string ⟨#[]⟩, .string ⟨#[]⟩, .int .u64 0, .int .u64 0, .int .u64 0, .int .u64 0, .bool false, .int .u64 0, .int .u64 0, .bool false] 31)).setCells X1.heap.size 0 x.vals.toList) := ⟨_, Eq.refl _⟩
        have h9 : Touch (fun _ => False) X1 X2 ∧ OpAt X1.heap.size x X2 := by rw [hW.out]; exact ⟨((Touch.refl _ _).alloc _).stored (Nat.le_refl _) 0 _, hz.stored 0 x.vals.toList (by kernel_rfl)⟩
        have HTX : Hid (Touch (fun _ => False) X0 X2) := HT1.out.trans h9.1
        have HX2 : Hid (Touch (fun _ => False) w X2 ∧ OpAt w.heap.size o X2 ∧ OpAt X1.heap.size x X2 ∧ True) := ⟨HX1.out.1.trans h9.1, HX1.out.2.1.keep h9.1, h9.2, trivial⟩
        rw [← hW.out]
        clear hW hz h9 HX1 HT1
        refine wpList_plain rfl fun K hK => ?_
        go_simp
        refine hK _ _ ?_
        clear hK K
        have HN2 : Hid (NewP W4 X2 (.slice ao2 i cp) (cutsO o 0 r)) := HI.out.2.2.on HTX.out
        have hnl : i = (cutsO o 0 r).length := by rw [cutsO_len]; exact HI.out.2.1.symm
        obtain ⟨v5, w5, hrun, hN5, _⟩ := NewP.app1 HN2.out x (by omega)
        have HI2 : Hid (Up e 0 (r ++ [e]) ∧ (r ++ [e]).length = i + 1 ∧ NewP W4 w5 v5 (cutsO o 0 (r ++ [e]))) := by
          rw [HI0.out.2]
          exact ⟨HI0.out.1, by rw [List.length_append, HI.out.2.1]; rfl, hN5⟩
        obtain ⟨ao5, cap5, hv5, _⟩ := hN5.shape
        rw [List.length_append, ← hnl] at hv5
        have hv6 : v5 = .slice ao5 (i + 1) cap5 := hv5
        subst hv6
        clear hv5 hN5 hnl HI HN2 HTX HI0
        go_upto_region 17 with fail
        refine wp_region_lit ?_
        refine wpList_plain rfl fun K hK => ?_
        go_simp
        refine hK _ _ ?_
        clear hK K
        refine wpList_load_mid rfl 31 (.tmp 12) rfl X1.heap.size 0 rfl x.vals.toList _ (rangeAt_of HX2.out.2.2.1) Tryz.underlying31 rfl (by kernel_rfl) ?_
        simp only [Act.put, List.setIfInBounds_toArray, List.set_cons_succ, List.set_cons_zero]
        refine wpList_plain rfl fun K hK => ?_
        go_simp
        refine hK _ _ ?_
        clear hK K
        refine wpList_append_runP rfl _ _ rfl _ _ _ rfl rfl hrun ?_
        clear hrun HX2
        simp only [Act.put, List.setIfInBounds_toArray, List.set_cons_succ, List.set_cons_zero]
        go_wp2_with fail
        go_roundg (n - e)
        case measure => omega
        case rel => exact ⟨r ++ [e], e, i + 1, ao5, cap5, by omega, rfl, rfl, by go_num, by omega, HI2.out⟩
      · have i1 : ¬ (i : Int) < (nn : Int) := by omega
        obtain ⟨e, he⟩ : ∃ e : Nat, e = n := ⟨_, rfl⟩
        have hae : a < e := by omega
        have hen : e ≤ n := by omega
        subst he
        have HCU : Hid (∀ W, Touch (fun _ => False) w W → Calls Tryz.prog 14 #[o.val, .int .i64 (a : Int), .int .i64 (e : Int)] W fun r w' => r = .returned (.tuple #[(pieceO o a e).val, .bool true]) ∧ Touch (fun _ => False) W w') := HP.out.cut a e hae hen
        have HI0 : Hid (Up e 0 (r ++ [e]) ∧ cutsO o 0 (r ++ [e]) = cutsO o 0 r ++ [pieceO o a e]) := ⟨HI.out.1.snoc hae, cuts_snoc o e HI.out.1⟩
        generalize pieceO o a e = x at *
        go_upto_region 14 with fail
        try rw [hme]
        refine wp_region_lit ?_
        refine wpList_load_mid rfl 31 (.tmp 3) rfl w.heap.size 0 rfl o.vals.toList _ (rangeAt_of HX0.out.2.1) Tryz.underlying31 rfl (by kernel_rfl) ?_
        simp only [Act.put, List.setIfInBounds_toArray, List.set_cons_succ, List.set_cons_zero]
        refine wpList_plain rfl fun K hK => ?_
        go_simp
        refine hK _ _ ?_
        clear hK K
        refine wpList_plain rfl fun K hK => ?_
        go_simp
        refine hK _ _ ?_
        clear hK K
        refine wpList_plain rfl fun K hK => ?_
        go_simp
        refine (HCU.out _ HX0.out.1).mono ?_
        rintro e' X1 ⟨rfl, t⟩
        have HT1 : Hid (Touch (fun _ => False) X0 X1) := t
        have HX1 : Hid (Touch (fun _ => False) w X1 ∧ OpAt w.heap.size o X1 ∧ True) := ⟨HX0.out.1.trans t, HX0.out.2.1.keep t, trivial⟩
        clear t HX0
        refine hK _ _ ?_
        clear hK K
        refine wpList_plain rfl fun K hK => ?_
        go_simp
        refine hK _ _ ?_
        clear hK K
        refine wpList_plain rfl fun K hK => ?_
        go_simp
        refine hK _ _ ?_
        clear hK K
        refine wpList_plain rfl fun K hK => ?_
        go_simp
        refine hK _ _ ?_
        clear hK K
        refine wpList_plain rfl fun K hK => ?_
        go_simp
        refine hK _ _ ?_
        clear hK K
        have hz : OpAt X1.heap.size zeroO (X1.alloc (.cells #[.int .u64 0, .int .u64 0, .int .i64 0, .int .u64 0, .int .u64 0, .int .u64 0, .int .u64 0, .int .u64 0, .string ⟨#[]⟩, .int .i64 0, .int .i64 0, .float .f64 0, .string ⟨#[]⟩, .string ⟨#[]⟩, .int .u64 0, .int .u64 0, .int .u64 0, .int .u64 0, .bool false, .int .u64 0, .int .u64 0, .bool false] 31)) := heap_alloc_new _ _
        refine wpList_store_mid rfl 31 (.tmp 12) (.tmp 64) rfl X1.heap.size 0 x.vals rfl rfl (hz.there 0 22 (by decide)) (by kernel_rfl) (by kernel_rfl) ?_
        simp only [Act.put]
        obtain ⟨X2, hW⟩ : ∃ W, Hid (W = (X1.alloc (.cells #[.int .u64 0, .int .u64 0, .int .i64 0, .int .u64 0, .int .u64 0, .int .u64 0, .int .u64 0, .int .u64 0, .string ⟨#[]⟩, .int .i64 0, .int .i64 0, .float .f64 0, .string ⟨#[]⟩, .string ⟨#[]⟩, .int .u64 0, .int .u64 0, .int .u64 0, .int .u64 0, .bool false, .int .u64 0, .int .u64 0, .bool false] 31)).setCells X1.heap.size 0 x.vals.toList) := ⟨_, Eq.refl _⟩
        have h9 : Touch (fun _ => False) X1 X2 ∧ OpAt X1.heap.size x X2 := by rw [hW.out]; exact ⟨((Touch.refl _ _).alloc _).stored (Nat.le_refl _) 0 _, hz.stored 0 x.vals.toList (by kernel_rfl)⟩
        have HTX : Hid (Touch (fun _ => False) X0 X2) := HT1.out.trans h9.1
        have HX2 : Hid (Touch (fun _ => False) w X2 ∧ OpAt w.heap.size o X2 ∧ OpAt X1.heap.size x X2 ∧ True) := ⟨HX1.out.1.trans h9.1, HX1.out.2.1.keep h9.1, h9.2, trivial⟩
        rw [← hW.out]
        clear hW hz h9 HX1 HT1
        refine wpList_plain rfl fun K hK => ?_
        go_simp
        refine hK _ _ ?_
        clear hK K
        have HN2 : Hid (NewP W4 X2 (.slice ao2 i cp) (cutsO o 0 r)) := HI.out.2.2.on HTX.out
        have hnl : i = (cutsO o 0 r).length := by rw [cutsO_len]; exact HI.out.2.1.symm
        obtain ⟨v5, w5, hrun, hN5, _⟩ := NewP.app1 HN2.out x (by omega)
        have HI2 : Hid (Up e 0 (r ++ [e]) ∧ (r ++ [e]).length = i + 1 ∧ NewP W4 w5 v5 (cutsO o 0 (r ++ [e]))) := by
          rw [HI0.out.2]
          exact ⟨HI0.out.1, by rw [List.length_append, HI.out.2.1]; rfl, hN5⟩
        obtain ⟨ao5, cap5, hv5, _⟩ := hN5.shape
        rw [List.length_append, ← hnl] at hv5
        have hv6 : v5 = .slice ao5 (i + 1) cap5 := hv5
        subst hv6
        clear hv5 hN5 hnl HI HN2 HTX HI0
        go_upto_region 17 with fail
        refine wp_region_lit ?_
        refine wpList_plain rfl fun K hK => ?_
        go_simp
        refine hK _ _ ?_
        clear hK K
        refine wpList_load_mid rfl 31 (.tmp 12) rfl X1.heap.size 0 rfl x.vals.toList _ (rangeAt_of HX2.out.2.2.1) Tryz.underlying31 rfl (by kernel_rfl) ?_
        simp only [Act.put, List.setIfInBounds_toArray, List.set_cons_succ, List.set_cons_zero]
        refine wpList_plain rfl fun K hK => ?_
        go_simp
        refine hK _ _ ?_
        clear hK K
        refine wpList_append_runP rfl _ _ rfl _ _ _ rfl rfl hrun ?_
        clear hrun HX2
        simp only [Act.put, List.setIfInBounds_toArray, List.set_cons_succ, List.set_cons_zero]
        go_wp2_with fail
        go_roundg (e - e)
        case measure => omega
        case rel => exact ⟨r ++ [e], e, i + 1, ao5, cap5, by omega, rfl, rfl, by go_num, by omega, HI2.out⟩
    · have a1 : ¬ (a : Int) < (n : Int) := by omega
      have han2 : a = n := by omega
      subst han2
      have hm1 : 1 ≤ i := by
        have h1 := HI.out.1
        have h2 := HI.out.2.1
        cases r with
        | nil =>
          have h' : 0 = a := h1
          omega
        | cons e r => rw [List.length_cons] at h2; omega
      have HPl2 : Hid (∀ W, Touch (fun _ => False) w W → Calls Tryz.prog 20 #[.int .i64 tt, .int .i64 1000] W fun e w' => (∃ p : Nat, e = .returned (.int .i64 (p : Int)) ∧ p < 1000) ∧ Touch (fun _ => False) W w') := fun W _ => (place_in tt 1000 (by omega) (by omega) W).mono (by rintro e w' ⟨⟨p, rfl, hp⟩, rfl⟩; exact ⟨⟨p, rfl, by omega⟩, Touch.refl _ _⟩)
      obtain ⟨G, rfl, hG⟩ : ∃ G, ao2 = some ⟨G, 0, none⟩ ∧ W4.heap.size ≤ G := by
        rcases HI.out.2.2.owns.2 with ⟨e, h0⟩ | ⟨G, cap, cur, e, hb, hg, q1, q2, q3, q4⟩
        · rw [cutsO_len, HI.out.2.1] at h0
          omega
        · simp only [Value.slice.injEq] at e
          exact ⟨G, e.1, HI.out.2.2.fresh G (by rw [e.1]; rfl)⟩
      go_upto_region 19 with fail
      refine wp_region_lit ?_
      refine wpList_plain rfl fun K hK => ?_
      go_simp
      refine hK _ _ ?_
      clear hK K
      refine wpList_plain rfl fun K hK => ?_
      go_simp
      refine (HPl2.out _ HX0.out.1).mono ?_
      rintro e X1 ⟨⟨p, rfl, hp⟩, t⟩
      have HX1 : Hid (Touch (fun _ => False) w X1 ∧ OpAt w.heap.size o X1 ∧ True) := ⟨HX0.out.1.trans t, HX0.out.2.1.keep t, trivial⟩
      have HI1 : Hid (NewP W4 X1 (.slice (some ⟨G, 0, none⟩) i cp) (cutsO o 0 r)) := HI.out.2.2.on t
      clear t HX0
      refine hK _ _ ?_
      clear hK K
      refine wpList_plain rfl fun K hK => ?_
      go_simp
      refine hK _ _ ?_
      clear hK K
      obtain ⟨m, hm⟩ : ∃ m, Hid (m = i) := ⟨_, rfl⟩
      have HR : Hid (Up a 0 r ∧ r.length = m) := ⟨HI.out.1, HI.out.2.1.trans hm.out.symm⟩
      rw [← hm.out] at HI1 hm1 hia ⊢
      clear hm HI
      go_wp2_with fail
      go_loopg [14] m (fun gk s14 wx => ∃ (j : Nat) (L : List O), j + gk = m ∧ s14 = .int .i64 (j : Int) ∧ Hid (L.Perm (cutsO o 0 r) ∧ NewP W4 wx (.slice (some ⟨G, 0, none⟩) m cp) L))
      case atStart => exact ⟨0, _, by omega, rfl, List.Perm.refl _, HI1.out⟩
      case round =>
        obtain ⟨j, L, hjg, rfl, HI⟩ := hrel
        obtain ⟨Y0, hY0⟩ : ∃ X, X = wr := ⟨_, rfl⟩
        subst hY0
        have HY0 : Hid (Touch (fun _ => False) w Y0 ∧ OpAt w.heap.size o Y0 ∧ True) := ⟨HW4.out.1.trans HI.out.2.touch, HW4.out.2.1.keep HI.out.2.touch, trivial⟩
        have hLm : L.length = m := by rw [HI.out.1.length_eq, cutsO_len]; exact HR.out.2
        by_cases hjm : j < m
        · have j1 : (j : Int) < (m : Int) := by omega
          have j0 : (0 : Int) ≤ (j : Int) := by omega
          have w1 : IntKind.i64.wrap (3 * (j : Int)) = 3 * (j : Int) := wrap_i64_small _ (by omega) (by omega)
          have w2 : IntKind.i64.wrap ((p : Int) + 3 * (j : Int)) = (p : Int) + 3 * (j : Int) := wrap_i64_small _ (by omega) (by omega)
          obtain ⟨k, hk⟩ : ∃ k : Nat, k = (p + 3 * j) % m := ⟨_, rfl⟩
          have hkm : k < m := by rw [hk]; exact Nat.mod_lt _ (by omega)
          have w3 : Int.tmod ((p : Int) + 3 * (j : Int)) (m : Int) = (k : Int) := by rw [Int.tmod_eq_emod_of_nonneg (by omega), hk]; push_cast; rfl
          have W3E : Hid (((p : Int) + 3 * (j : Int)) % (m : Int) = (k : Int)) := by show _ % _ = _; rw [hk]; push_cast; rfl
          have w4 : IntKind.i64.wrap (k : Int) = (k : Int) := wrap_i64_small _ (by omega) (by omega)
          have m0 : ¬ (m : Int) = 0 := by omega
          have k1 : (k : Int) < (m : Int) := by omega
          have k0 : (0 : Int) ≤ (k : Int) := by omega
          go_upto_region 24 with fail
          try rw [W3E.out]
          have HN0 : Hid (NewP W4 Y0.drew (.slice (some ⟨G, 0, none⟩) m cp) L) := HI.out.2.on (Touch.refl _ _).drew
          obtain ⟨x, hx⟩ : ∃ x, x = L[k]'(by omega) := ⟨_, rfl⟩
          obtain ⟨y, hy⟩ : ∃ y, y = L[j]'(by omega) := ⟨_, rfl⟩
          have Hx : Hid (Y0.drew.rangeAt G (0 + k * 22) x.vals.toList) := by rw [hx]; exact HN0.out.rangeOf hLm k (by omega)
          have Hy : Hid (Y0.drew.rangeAt G (0 + j * 22) y.vals.toList) := by rw [hy]; exact HN0.out.rangeOf hLm j (by omega)
          have Ht1 : Hid (Y0.drew.there G (0 + j * 22) y.vals.size) := HN0.out.thereOf hLm j (by omega) y
          obtain ⟨Z1, hZ1⟩ : ∃ W, Hid (W = Y0.drew.setCells G (0 + j * 22) x.vals.toList) := ⟨_, Eq.refl _⟩
          have HN1 : Hid (NewP W4 Z1 (.slice (some ⟨G, 0, none⟩) m cp) (L.set j x)) := by
            rw [hZ1.out, Nat.zero_add]
            exact NewP.setRow HN0.out (by rw [hLm]) j (by omega) x
          have hl1 : (L.set j x).length = m := by rw [List.length_set]; exact hLm
          have Ht2 : Hid (Z1.there G (0 + k * 22) y.vals.size) := HN1.out.thereOf hl1 k (by omega) y
          obtain ⟨Z2, hZ2⟩ : ∃ W, Hid (W = Z1.setCells G (0 + k * 22) y.vals.toList) := ⟨_, Eq.refl _⟩
          have HI2 : Hid (((L.set j x).set k y).Perm (cutsO o 0 r) ∧ NewP W4 Z2 (.slice (some ⟨G, 0, none⟩) m cp) ((L.set j x).set k y)) := by
            refine ⟨?_, ?_⟩
            · rw [hx, hy]
              exact (swap_perm L j k (by omega) (by omega)).trans HI.out.1
            · rw [hZ2.out, Nat.zero_add]
              exact NewP.setRow HN1.out (by rw [hl1]) k (by omega) y
          clear hx hy HN0 HN1 hl1 HI HY0 hk
          refine wp_region_any (by kernel_rfl) ?_
          show Go.wpAny _ _ _ _ _ _ _ Y0.drew
          refine wpAny_take (i := 0) (oi := { dst := some 88, op := Go.Op.move (Go.Operand.tmp 8), type := 45, pos := "law.go:145", after := #[], guard := none }) (v := .slice (some ⟨G, 0, none⟩) m cp) rfl (by kernel_rfl) (by kernel_rfl) (by kernel_rfl) (fun _ _ _ h => h) (Or.inl ⟨by rfl, ?_⟩) ?_
          · intro w; go_simp
          simp only [Act.put, List.setIfInBounds_toArray, List.set_cons_succ, List.set_cons_zero]
          refine wpAny_take (i := 1) (oi := { dst := some 89, op := Go.Op.move (Go.Operand.tmp 14), type := 3, pos := "law.go:145", after := #[], guard := none }) (v := .int .i64 (j : Int)) rfl (by kernel_rfl) (by kernel_rfl) (by kernel_rfl) (fun _ _ _ h => h) (Or.inl ⟨by rfl, ?_⟩) ?_
          · intro w; go_simp
          simp only [Act.put, List.setIfInBounds_toArray, List.set_cons_succ, List.set_cons_zero]
          refine wpAny_take (i := 2) (oi := { dst := some 90, op := Go.Op.move (Go.Operand.tmp 8), type := 45, pos := "law.go:145", after := #[{ on := 13, ground := Go.Ground.gcOnly Go.Departure.lateStores }], guard := none }) (v := .slice (some ⟨G, 0, none⟩) m cp) rfl (by kernel_rfl) (by kernel_rfl) (by kernel_rfl) (fun _ _ _ h => h) (Or.inl ⟨by rfl, ?_⟩) ?_
          · intro w; go_simp
          simp only [Act.put, List.setIfInBounds_toArray, List.set_cons_succ, List.set_cons_zero]
          refine wpAny_take (i := 3) (oi := { dst := some 91, op := Go.Op.move (Go.Operand.tmp 15), type := 3, pos := "law.go:145", after := #[{ on := 13, ground := Go.Ground.gcOnly Go.Departure.lateStores }], guard := none }) (v := .int .i64 (k : Int)) rfl (by kernel_rfl) (by kernel_rfl) (by kernel_rfl) (fun _ _ _ h => h) (Or.inl ⟨by rfl, ?_⟩) ?_
          · intro w; go_simp
          simp only [Act.put, List.setIfInBounds_toArray, List.set_cons_succ, List.set_cons_zero]
          refine wpAny_take (i := 4) (oi := { dst := some 92, op := Go.Op.move (Go.Operand.tmp 8), type := 45, pos := "law.go:145", after := #[], guard := none }) (v := .slice (some ⟨G, 0, none⟩) m cp) rfl (by kernel_rfl) (by kernel_rfl) (by kernel_rfl) (fun _ _ _ h => h) (Or.inl ⟨by rfl, ?_⟩) ?_
          · intro w; go_simp
          simp only [Act.put, List.setIfInBounds_toArray, List.set_cons_succ, List.set_cons_zero]
          refine wpAny_take (i := 5) (oi := { dst := some 93, op := Go.Op.move (Go.Operand.tmp 15), type := 3, pos := "law.go:145", after := #[], guard := none }) (v := .int .i64 (k : Int)) rfl (by kernel_rfl) (by kernel_rfl) (by kernel_rfl) (fun _ _ _ h => h) (Or.inl ⟨by rfl, ?_⟩) ?_
          · intro w; go_simp
          simp only [Act.put, List.setIfInBounds_toArray, List.set_cons_succ, List.set_cons_zero]
          refine wpAny_take (i := 6) (oi := { dst := some 94, op := Go.Op.indexAddr 45 (Go.Operand.tmp 92) (Go.Operand.tmp 93), type := 0, pos := "law.go:145", after := #[{ on := 4, ground := Go.Ground.data }, { on := 5, ground := Go.Ground.data }], guard := none }) (v := .pointer (some ⟨G, 0 + k * 22, none⟩)) rfl (by kernel_rfl) (by kernel_rfl) (by kernel_rfl) (fun _ _ _ h => h) (Or.inl ⟨by rfl, ?_⟩) ?_
          · intro w; go_simp
          simp only [Act.put, List.setIfInBounds_toArray, List.set_cons_succ, List.set_cons_zero]
          refine wpAny_take (i := 8) (oi := { dst := some 96, op := Go.Op.move (Go.Operand.tmp 8), type := 45, pos := "law.go:145", after := #[], guard := none }) (v := .slice (some ⟨G, 0, none⟩) m cp) rfl (by kernel_rfl) (by kernel_rfl) (by kernel_rfl) (fun _ _ _ h => h) (Or.inl ⟨by rfl, ?_⟩) ?_
          · intro w; go_simp
          simp only [Act.put, List.setIfInBounds_toArray, List.set_cons_succ, List.set_cons_zero]
          refine wpAny_take (i := 9) (oi := { dst := some 97, op := Go.Op.move (Go.Operand.tmp 14), type := 3, pos := "law.go:145", after := #[], guard := none }) (v := .int .i64 (j : Int)) rfl (by kernel_rfl) (by kernel_rfl) (by kernel_rfl) (fun _ _ _ h => h) (Or.inl ⟨by rfl, ?_⟩) ?_
          · intro w; go_simp
          simp only [Act.put, List.setIfInBounds_toArray, List.set_cons_succ, List.set_cons_zero]
          refine wpAny_take (i := 10) (oi := { dst := some 98, op := Go.Op.indexAddr 45 (Go.Operand.tmp 96) (Go.Operand.tmp 97), type := 0, pos := "law.go:145", after := #[{ on := 8, ground := Go.Ground.data }, { on := 9, ground := Go.Ground.data }], guard := none }) (v := .pointer (some ⟨G, 0 + j * 22, none⟩)) rfl (by kernel_rfl) (by kernel_rfl) (by kernel_rfl) (fun _ _ _ h => h) (Or.inl ⟨by rfl, ?_⟩) ?_
          · intro w; go_simp
          simp only [Act.put, List.setIfInBounds_toArray, List.set_cons_succ, List.set_cons_zero]
          refine wpAny_ready (rs := [7, 11]) (by kernel_rfl) (by simp) ?_
          refine AllReady.cons (o := { dst := some 95, op := Go.Op.load 31 (Go.Operand.tmp 94), type := 31, pos := "law.go:145", after := #[{ on := 6, ground := Go.Ground.data }], guard := none }) rfl (fun K hK => ?_) ?_
          · refine ite_of_pos (by kernel_rfl) ?_
            refine wp_load_mid 31 (.tmp 94) rfl G (0 + k * 22) rfl x.vals.toList _ Hx.out Tryz.underlying31 rfl (by kernel_rfl) (hK _ _ ?_)
            clear hK K
            simp only [Act.put, List.setIfInBounds_toArray, List.set_cons_succ, List.set_cons_zero]
            refine wpAny_ready (rs := [11]) (by kernel_rfl) (by simp) ?_
            refine AllReady.cons (o := { dst := some 99, op := Go.Op.load 31 (Go.Operand.tmp 98), type := 31, pos := "law.go:145", after := #[{ on := 10, ground := Go.Ground.data }], guard := none }) rfl (fun K hK => ?_) AllReady.nil
            refine ite_of_pos (by kernel_rfl) ?_
            refine wp_load_mid 31 (.tmp 98) rfl G (0 + j * 22) rfl y.vals.toList _ Hy.out Tryz.underlying31 rfl (by kernel_rfl) (hK _ _ ?_)
            clear hK K
            simp only [Act.put, List.setIfInBounds_toArray, List.set_cons_succ, List.set_cons_zero]
            refine wpAny_take (i := 12) (oi := { dst := some 100, op := Go.Op.indexAddr 45 (Go.Operand.tmp 88) (Go.Operand.tmp 89), type := 0, pos := "law.go:145", after := #[{ on := 0, ground := Go.Ground.data }, { on := 1, ground := Go.Ground.data }, { on := 0, ground := Go.Ground.phase }, { on := 1, ground := Go.Ground.phase }, { on := 2, ground := Go.Ground.textOnly Go.Departure.lateStores }, { on := 3, ground := Go.Ground.textOnly Go.Departure.lateStores }, { on := 4, ground := Go.Ground.phase }, { on := 5, ground := Go.Ground.phase }, { on := 6, ground := Go.Ground.phase }, { on := 7, ground := Go.Ground.phase }, { on := 8, ground := Go.Ground.textOnly Go.Departure.lateStores }, { on := 9, ground := Go.Ground.textOnly Go.Departure.lateStores }, { on := 10, ground := Go.Ground.textOnly Go.Departure.lateStoresUnsure }, { on := 11, ground := Go.Ground.phase }], guard := none }) (v := .pointer (some ⟨G, 0 + j * 22, none⟩)) rfl (by kernel_rfl) (by kernel_rfl) (by kernel_rfl) (fun _ _ _ h => h) (Or.inl ⟨by rfl, ?_⟩) ?_
            · intro w; go_simp
            simp only [Act.put, List.setIfInBounds_toArray, List.set_cons_succ, List.set_cons_zero]
            refine wpAny_ready (rs := [13]) (by kernel_rfl) (by simp) ?_
            refine AllReady.cons (o := { dst := none, op := Go.Op.store 31 (Go.Operand.tmp 100) (Go.Operand.tmp 95), type := 0, pos := "law.go:145", after := #[{ on := 12, ground := Go.Ground.data }, { on := 7, ground := Go.Ground.data }, { on := 0, ground := Go.Ground.phase }, { on := 1, ground := Go.Ground.phase }, { on := 2, ground := Go.Ground.textOnly Go.Departure.lateStores }, { on := 3, ground := Go.Ground.textOnly Go.Departure.lateStores }, { on := 4, ground := Go.Ground.phase }, { on := 5, ground := Go.Ground.phase }, { on := 6, ground := Go.Ground.phase }, { on := 7, ground := Go.Ground.phase }, { on := 8, ground := Go.Ground.textOnly Go.Departure.lateStores }, { on := 9, ground := Go.Ground.textOnly Go.Departure.lateStores }, { on := 10, ground := Go.Ground.textOnly Go.Departure.lateStoresUnsure }, { on := 11, ground := Go.Ground.phase }], guard := none }) rfl (fun K hK => ?_) AllReady.nil
            refine ite_of_pos (by kernel_rfl) ?_
            refine wp_store_mid 31 (.tmp 100) (.tmp 95) rfl G (0 + j * 22) x.vals rfl rfl Ht1.out (by kernel_rfl) (by kernel_rfl) (hK _ _ ?_)
            clear hK K
            simp only [Act.put, List.setIfInBounds_toArray, List.set_cons_succ, List.set_cons_zero]
            rw [← hZ1.out]
            refine wpAny_take (i := 14) (oi := { dst := some 101, op := Go.Op.indexAddr 45 (Go.Operand.tmp 90) (Go.Operand.tmp 91), type := 0, pos := "law.go:145", after := #[{ on := 2, ground := Go.Ground.data }, { on := 3, ground := Go.Ground.data }, { on := 0, ground := Go.Ground.phase }, { on := 1, ground := Go.Ground.phase }, { on := 2, ground := Go.Ground.phase }, { on := 3, ground := Go.Ground.phase }, { on := 4, ground := Go.Ground.phase }, { on := 5, ground := Go.Ground.phase }, { on := 6, ground := Go.Ground.phase }, { on := 7, ground := Go.Ground.phase }, { on := 8, ground := Go.Ground.phase }, { on := 9, ground := Go.Ground.phase }, { on := 10, ground := Go.Ground.phase }, { on := 11, ground := Go.Ground.phase }, { on := 12, ground := Go.Ground.phase }, { on := 13, ground := Go.Ground.phase }], guard := none }) (v := .pointer (some ⟨G, 0 + k * 22, none⟩)) rfl (by kernel_rfl) (by kernel_rfl) (by kernel_rfl) (fun _ _ _ h => h) (Or.inl ⟨by rfl, ?_⟩) ?_
            · intro w; go_simp
            simp only [Act.put, List.setIfInBounds_toArray, List.set_cons_succ, List.set_cons_zero]
            refine wpAny_ready (rs := [15]) (by kernel_rfl) (by simp) ?_
            refine AllReady.cons (o := { dst := none, op := Go.Op.store 31 (Go.Operand.tmp 101) (Go.Operand.tmp 99), type := 0, pos := "law.go:145", after := #[{ on := 14, ground := Go.Ground.data }, { on := 11, ground := Go.Ground.data }, { on := 13, ground := Go.Ground.chain }, { on := 0, ground := Go.Ground.phase }, { on := 1, ground := Go.Ground.phase }, { on := 2, ground := Go.Ground.phase }, { on := 3, ground := Go.Ground.phase }, { on := 4, ground := Go.Ground.phase }, { on := 5, ground := Go.Ground.phase }, { on := 6, ground := Go.Ground.phase }, { on := 7, ground := Go.Ground.phase }, { on := 8, ground := Go.Ground.phase }, { on := 9, ground := Go.Ground.phase }, { on := 10, ground := Go.Ground.phase }, { on := 11, ground := Go.Ground.phase }, { on := 12, ground := Go.Ground.phase }, { on := 13, ground := Go.Ground.phase }], guard := none }) rfl (fun K hK => ?_) AllReady.nil
            refine ite_of_pos (by kernel_rfl) ?_
            refine wp_store_mid 31 (.tmp 101) (.tmp 99) rfl G (0 + k * 22) y.vals rfl rfl Ht2.out (by kernel_rfl) (by kernel_rfl) (hK _ _ ?_)
            clear hK K
            simp only [Act.put, List.setIfInBounds_toArray, List.set_cons_succ, List.set_cons_zero]
            rw [← hZ2.out]
            refine wpAny_done (by kernel_rfl) ?_ _
            try simp only [List.getElem_toArray, List.getElem_cons_succ, List.getElem_cons_zero, List.setIfInBounds_toArray, List.set_cons_succ, List.set_cons_zero]
            clear hZ1 hZ2 Hx Hy Ht1 Ht2
            go_wp2_with fail
            go_roundg (m - (j + 1))
            case measure => omega
            case rel => exact ⟨j + 1, _, by omega, by go_num, HI2.out⟩
          refine AllReady.cons (o := { dst := some 99, op := Go.Op.load 31 (Go.Operand.tmp 98), type := 31, pos := "law.go:145", after := #[{ on := 10, ground := Go.Ground.data }], guard := none }) rfl (fun K hK => ?_) AllReady.nil
          refine ite_of_pos (by kernel_rfl) ?_
          refine wp_load_mid 31 (.tmp 98) rfl G (0 + j * 22) rfl y.vals.toList _ Hy.out Tryz.underlying31 rfl (by kernel_rfl) (hK _ _ ?_)
          clear hK K
          simp only [Act.put, List.setIfInBounds_toArray, List.set_cons_succ, List.set_cons_zero]
          refine wpAny_ready (rs := [7]) (by kernel_rfl) (by simp) ?_
          refine AllReady.cons (o := { dst := some 95, op := Go.Op.load 31 (Go.Operand.tmp 94), type := 31, pos := "law.go:145", after := #[{ on := 6, ground := Go.Ground.data }], guard := none }) rfl (fun K hK => ?_) AllReady.nil
          refine ite_of_pos (by kernel_rfl) ?_
          refine wp_load_mid 31 (.tmp 94) rfl G (0 + k * 22) rfl x.vals.toList _ Hx.out Tryz.underlying31 rfl (by kernel_rfl) (hK _ _ ?_)
          clear hK K
          simp only [Act.put, List.setIfInBounds_toArray, List.set_cons_succ, List.set_cons_zero]
          refine wpAny_take (i := 12) (oi := { dst := some 100, op := Go.Op.indexAddr 45 (Go.Operand.tmp 88) (Go.Operand.tmp 89), type := 0, pos := "law.go:145", after := #[{ on := 0, ground := Go.Ground.data }, { on := 1, ground := Go.Ground.data }, { on := 0, ground := Go.Ground.phase }, { on := 1, ground := Go.Ground.phase }, { on := 2, ground := Go.Ground.textOnly Go.Departure.lateStores }, { on := 3, ground := Go.Ground.textOnly Go.Departure.lateStores }, { on := 4, ground := Go.Ground.phase }, { on := 5, ground := Go.Ground.phase }, { on := 6, ground := Go.Ground.phase }, { on := 7, ground := Go.Ground.phase }, { on := 8, ground := Go.Ground.textOnly Go.Departure.lateStores }, { on := 9, ground := Go.Ground.textOnly Go.Departure.lateStores }, { on := 10, ground := Go.Ground.textOnly Go.Departure.lateStoresUnsure }, { on := 11, ground := Go.Ground.phase }], guard := none }) (v := .pointer (some ⟨G, 0 + j * 22, none⟩)) rfl (by kernel_rfl) (by kernel_rfl) (by kernel_rfl) (fun _ _ _ h => h) (Or.inl ⟨by rfl, ?_⟩) ?_
          · intro w; go_simp
          simp only [Act.put, List.setIfInBounds_toArray, List.set_cons_succ, List.set_cons_zero]
          refine wpAny_ready (rs := [13]) (by kernel_rfl) (by simp) ?_
          refine AllReady.cons (o := { dst := none, op := Go.Op.store 31 (Go.Operand.tmp 100) (Go.Operand.tmp 95), type := 0, pos := "law.go:145", after := #[{ on := 12, ground := Go.Ground.data }, { on := 7, ground := Go.Ground.data }, { on := 0, ground := Go.Ground.phase }, { on := 1, ground := Go.Ground.phase }, { on := 2, ground := Go.Ground.textOnly Go.Departure.lateStores }, { on := 3, ground := Go.Ground.textOnly Go.Departure.lateStores }, { on := 4, ground := Go.Ground.phase }, { on := 5, ground := Go.Ground.phase }, { on := 6, ground := Go.Ground.phase }, { on := 7, ground := Go.Ground.phase }, { on := 8, ground := Go.Ground.textOnly Go.Departure.lateStores }, { on := 9, ground := Go.Ground.textOnly Go.Departure.lateStores }, { on := 10, ground := Go.Ground.textOnly Go.Departure.lateStoresUnsure }, { on := 11, ground := Go.Ground.phase }], guard := none }) rfl (fun K hK => ?_) AllReady.nil
          refine ite_of_pos (by kernel_rfl) ?_
          refine wp_store_mid 31 (.tmp 100) (.tmp 95) rfl G (0 + j * 22) x.vals rfl rfl Ht1.out (by kernel_rfl) (by kernel_rfl) (hK _ _ ?_)
          clear hK K
          simp only [Act.put, List.setIfInBounds_toArray, List.set_cons_succ, List.set_cons_zero]
          rw [← hZ1.out]
          refine wpAny_take (i := 14) (oi := { dst := some 101, op := Go.Op.indexAddr 45 (Go.Operand.tmp 90) (Go.Operand.tmp 91), type := 0, pos := "law.go:145", after := #[{ on := 2, ground := Go.Ground.data }, { on := 3, ground := Go.Ground.data }, { on := 0, ground := Go.Ground.phase }, { on := 1, ground := Go.Ground.phase }, { on := 2, ground := Go.Ground.phase }, { on := 3, ground := Go.Ground.phase }, { on := 4, ground := Go.Ground.phase }, { on := 5, ground := Go.Ground.phase }, { on := 6, ground := Go.Ground.phase }, { on := 7, ground := Go.Ground.phase }, { on := 8, ground := Go.Ground.phase }, { on := 9, ground := Go.Ground.phase }, { on := 10, ground := Go.Ground.phase }, { on := 11, ground := Go.Ground.phase }, { on := 12, ground := Go.Ground.phase }, { on := 13, ground := Go.Ground.phase }], guard := none }) (v := .pointer (some ⟨G, 0 + k * 22, none⟩)) rfl (by kernel_rfl) (by kernel_rfl) (by kernel_rfl) (fun _ _ _ h => h) (Or.inl ⟨by rfl, ?_⟩) ?_
          · intro w; go_simp
          simp only [Act.put, List.setIfInBounds_toArray, List.set_cons_succ, List.set_cons_zero]
          refine wpAny_ready (rs := [15]) (by kernel_rfl) (by simp) ?_
          refine AllReady.cons (o := { dst := none, op := Go.Op.store 31 (Go.Operand.tmp 101) (Go.Operand.tmp 99), type := 0, pos := "law.go:145", after := #[{ on := 14, ground := Go.Ground.data }, { on := 11, ground := Go.Ground.data }, { on := 13, ground := Go.Ground.chain }, { on := 0, ground := Go.Ground.phase }, { on := 1, ground := Go.Ground.phase }, { on := 2, ground := Go.Ground.phase }, { on := 3, ground := Go.Ground.phase }, { on := 4, ground := Go.Ground.phase }, { on := 5, ground := Go.Ground.phase }, { on := 6, ground := Go.Ground.phase }, { on := 7, ground := Go.Ground.phase }, { on := 8, ground := Go.Ground.phase }, { on := 9, ground := Go.Ground.phase }, { on := 10, ground := Go.Ground.phase }, { on := 11, ground := Go.Ground.phase }, { on := 12, ground := Go.Ground.phase }, { on := 13, ground := Go.Ground.phase }], guard := none }) rfl (fun K hK => ?_) AllReady.nil
          refine ite_of_pos (by kernel_rfl) ?_
          refine wp_store_mid 31 (.tmp 101) (.tmp 99) rfl G (0 + k * 22) y.vals rfl rfl Ht2.out (by kernel_rfl) (by kernel_rfl) (hK _ _ ?_)
          clear hK K
          simp only [Act.put, List.setIfInBounds_toArray, List.set_cons_succ, List.set_cons_zero]
          rw [← hZ2.out]
          refine wpAny_done (by kernel_rfl) ?_ _
          try simp only [List.getElem_toArray, List.getElem_cons_succ, List.getElem_cons_zero, List.setIfInBounds_toArray, List.set_cons_succ, List.set_cons_zero]
          clear hZ1 hZ2 Hx Hy Ht1 Ht2
          go_wp2_with fail
          go_roundg (m - (j + 1))
          case measure => omega
          case rel => exact ⟨j + 1, _, by omega, by go_num, HI2.out⟩
        · have j1 : ¬ (j : Int) < (m : Int) := by omega
          have HJo : Hid (∀ W v, Touch (fun _ => False) w W → SlP W v L → Calls Tryz.prog 23 #[v] W fun r w' => ∃ ao cap, r = .returned (.slice ao 1 cap) ∧ Touch (fun _ => False) W w' ∧ SlP w' (.slice ao 1 cap) [o]) := HP.out.jo r HR.out.1 L HI.out.1
          have HSL : Hid (SlP Y0 (.slice (some ⟨G, 0, none⟩) m cp) L) := HI.out.2.sl
          clear HI
          have hbs1 : ∀ (x : O) (W : World), (Instr.buildSlice 45 1 #[(0, x.val)]).run Tryz.prog W = .ok (.slice (some ⟨W.heap.size, 0, none⟩) 1 1) (W.alloc (opO x)) := run_build1
          go_upto_region 25 with fail
          have HZ0 : Hid (Touch (fun _ => False) w Y0.drew ∧ OpAt w.heap.size o Y0.drew ∧ True) := ⟨HY0.out.1.drew, HY0.out.2⟩
          have HSL : Hid (SlP Y0.drew (.slice (some ⟨G, 0, none⟩) m cp) L) := HSL.out.touch (Touch.refl _ _).drew
          clear HY0
          refine wp_region_held_drew (S := fun W' => OpAt w.heap.size o W' ∧ True) (by kernel_rfl) HZ0.out.2 (fun hHeld => ?_)
          generalize Y0.drew = Z0 at *
          refine wpAnyH_take (i := 0) (oi := { dst := some 102, op := Go.Op.move (Go.Operand.tmp 8), type := 45, pos := "law.go:147", after := #[], guard := none }) (v := .slice (some ⟨G, 0, none⟩) m cp) rfl (by kernel_rfl) (by kernel_rfl) (by kernel_rfl) (fun _ _ _ h => h) (Or.inl ⟨by rfl, ?_⟩) hHeld ?_
          · intro w hSw; clear hSw; go_simp
          simp only [Act.put, List.setIfInBounds_toArray]
          refine wpAnyH_take (i := 2) (oi := { dst := some 104, op := Go.Op.load 31 (Go.Operand.tmp 3), type := 31, pos := "law.go:147", after := #[], guard := none }) (v := o.val) rfl (by kernel_rfl) (by kernel_rfl) (by kernel_rfl) (fun _ _ _ h => h) (yieldsIf_load_mid (by rfl) 31 (.tmp 3) rfl w.heap.size 0 rfl o.vals.toList _ (fun w hw => rangeAt_of hw.1) Tryz.underlying31 rfl (by kernel_rfl)) hHeld ?_
          simp only [Act.put, List.setIfInBounds_toArray]
          refine wpAnyH_ready (rs := [1, 3]) (by kernel_rfl) (by simp) ?_
          refine AllReadyH.cons (o := { dst := some 103, op := Go.Op.call { callee := Go.Callee.value (Go.Operand.func 23), args := #[Go.Operand.tmp 102], argTypes := #[45] }, type := 45, pos := "law.go:147", after := #[{ on := 0, ground := Go.Ground.data }], guard := none }) rfl (fun K hK => ?_) ?_
          · go_simp
            refine (HJo.out _ _ HZ0.out.1 HSL.out).mono ?_
            rintro e A1 ⟨ao3, cp3, rfl, t, hj⟩
            have HA1 : Hid (Touch (fun _ => False) w A1 ∧ OpAt w.heap.size o A1 ∧ True) := ⟨HZ0.out.1.trans t, HZ0.out.2.1.keep t, trivial⟩
            have HJ3 : Hid (SlP A1 (.slice ao3 1 cp3) [o]) := hj
            have hS2 : OpAt w.heap.size o A1 ∧ True := HA1.out.2
            clear t hj HZ0
            refine hK.out _ _ hS2 (fun hHeld => ?_)
            clear hK K hS2
            refine wpAnyH_ready (rs := [3]) (by kernel_rfl) (by simp) ?_
            refine AllReadyH.cons (o := { dst := some 105, op := Go.Op.buildSlice 45 1 #[(0, Go.Operand.tmp 104)], type := 45, pos := "law.go:147", after := #[{ on := 2, ground := Go.Ground.data }], guard := none }) rfl (fun K hK => ?_) AllReadyH.nil
            go_simp
            obtain ⟨A2, hW⟩ : ∃ W, Hid (W = (A1).alloc (opO o)) := ⟨_, Eq.refl _⟩
            have t : Touch (fun _ => False) A1 A2 := by rw [hW.out]; exact (Touch.refl _ _).alloc _
            have HA2 : Hid (Touch (fun _ => False) w A2 ∧ OpAt w.heap.size o A2 ∧ True) := ⟨HA1.out.1.trans t, HA1.out.2.1.keep t, trivial⟩
            have HJ1 : Hid (SlP A2 (.slice (some ⟨A1.heap.size, 0, none⟩) 1 1) [o]) := by rw [hW.out]; exact SlP.lit1p A1 o
            have HJ3 : Hid (SlP A2 (.slice ao3 1 cp3) [o]) := HJ3.out.touch t
            rw [← hW.out]
            have hS2 : OpAt w.heap.size o A2 ∧ True := HA2.out.2
            clear t hW HA1
            refine hK.out _ _ hS2 (fun hHeld => ?_)
            clear hK K hS2
            refine wpAnyH_ready (rs := [4]) (by kernel_rfl) (by simp) ?_
            refine AllReadyH.cons (o := { dst := some 106, op := Go.Op.call { callee := Go.Callee.value (Go.Operand.func 22), args := #[Go.Operand.tmp 103, Go.Operand.tmp 105], argTypes := #[45, 45] }, type := 4, pos := "law.go:147", after := #[{ on := 1, ground := Go.Ground.data }, { on := 3, ground := Go.Ground.data }, { on := 1, ground := Go.Ground.chain }], guard := none }) rfl (fun K hK => ?_) AllReadyH.nil
            go_simp
            refine (HSm.out _ _ _ HJ3.out HJ1.out).mono ?_
            rintro e A3 ⟨rfl, t⟩
            have HA3 : Hid (Touch (fun _ => False) w A3 ∧ OpAt w.heap.size o A3 ∧ True) := ⟨HA2.out.1.trans t, HA2.out.2.1.keep t, trivial⟩
            have hS2 : OpAt w.heap.size o A3 ∧ True := HA3.out.2
            clear t HA2
            refine hK.out _ _ hS2 (fun hHeld => ?_)
            clear hK K hS2
            refine wpAnyH_take (i := 5) (oi := { dst := some 6, op := Go.Op.assign (Go.Operand.tmp 106), type := 4, pos := "law.go:147", after := #[{ on := 4, ground := Go.Ground.data }, { on := 4, ground := Go.Ground.chain }, { on := 0, ground := Go.Ground.phase }, { on := 1, ground := Go.Ground.phase }, { on := 2, ground := Go.Ground.phase }, { on := 3, ground := Go.Ground.phase }, { on := 4, ground := Go.Ground.phase }], guard := none }) (v := .bool true) rfl (by kernel_rfl) (by kernel_rfl) (by kernel_rfl) (fun _ _ _ h => h) (Or.inl ⟨by rfl, ?_⟩) hHeld ?_
            · intro w hSw; clear hSw; go_simp
            simp only [Act.put, List.setIfInBounds_toArray]
            refine wpAnyH_done (by kernel_rfl) ?_ _
            try simp only [List.getElem_toArray, List.getElem_cons_succ, List.getElem_cons_zero, List.setIfInBounds_toArray, List.set_cons_succ, List.set_cons_zero]
            clear hHeld
            go_wp2_with fail
            go_ret
            exact ⟨rfl, HA3.out.1⟩
          refine AllReadyH.cons (o := { dst := some 105, op := Go.Op.buildSlice 45 1 #[(0, Go.Operand.tmp 104)], type := 45, pos := "law.go:147", after := #[{ on := 2, ground := Go.Ground.data }], guard := none }) rfl (fun K hK => ?_) AllReadyH.nil
          go_simp
          obtain ⟨B1, hW⟩ : ∃ W, Hid (W = (Z0).alloc (opO o)) := ⟨_, Eq.refl _⟩
          have t : Touch (fun _ => False) Z0 B1 := by rw [hW.out]; exact (Touch.refl _ _).alloc _
          have HB1 : Hid (Touch (fun _ => False) w B1 ∧ OpAt w.heap.size o B1 ∧ True) := ⟨HZ0.out.1.trans t, HZ0.out.2.1.keep t, trivial⟩
          have HJ1 : Hid (SlP B1 (.slice (some ⟨Z0.heap.size, 0, none⟩) 1 1) [o]) := by rw [hW.out]; exact SlP.lit1p Z0 o
          have HSL : Hid (SlP B1 (.slice (some ⟨G, 0, none⟩) m cp) L) := HSL.out.touch t
          rw [← hW.out]
          have hS2 : OpAt w.heap.size o B1 ∧ True := HB1.out.2
          clear t hW HZ0
          refine hK.out _ _ hS2 (fun hHeld => ?_)
          clear hK K hS2
          refine wpAnyH_ready (rs := [1]) (by kernel_rfl) (by simp) ?_
          refine AllReadyH.cons (o := { dst := some 103, op := Go.Op.call { callee := Go.Callee.value (Go.Operand.func 23), args := #[Go.Operand.tmp 102], argTypes := #[45] }, type := 45, pos := "law.go:147", after := #[{ on := 0, ground := Go.Ground.data }], guard := none }) rfl (fun K hK => ?_) AllReadyH.nil
          go_simp
          refine (HJo.out _ _ HB1.out.1 HSL.out).mono ?_
          rintro e B2 ⟨ao3, cp3, rfl, t, hj⟩
          have HB2 : Hid (Touch (fun _ => False) w B2 ∧ OpAt w.heap.size o B2 ∧ True) := ⟨HB1.out.1.trans t, HB1.out.2.1.keep t, trivial⟩
          have HJ3 : Hid (SlP B2 (.slice ao3 1 cp3) [o]) := hj
          have HJ1 : Hid (SlP B2 (.slice (some ⟨Z0.heap.size, 0, none⟩) 1 1) [o]) := HJ1.out.touch t
          have hS2 : OpAt w.heap.size o B2 ∧ True := HB2.out.2
          clear t hj HB1
          refine hK.out _ _ hS2 (fun hHeld => ?_)
          clear hK K hS2
          refine wpAnyH_ready (rs := [4]) (by kernel_rfl) (by simp) ?_
          refine AllReadyH.cons (o := { dst := some 106, op := Go.Op.call { callee := Go.Callee.value (Go.Operand.func 22), args := #[Go.Operand.tmp 103, Go.Operand.tmp 105], argTypes := #[45, 45] }, type := 4, pos := "law.go:147", after := #[{ on := 1, ground := Go.Ground.data }, { on := 3, ground := Go.Ground.data }, { on := 1, ground := Go.Ground.chain }], guard := none }) rfl (fun K hK => ?_) AllReadyH.nil
          go_simp
          refine (HSm.out _ _ _ HJ3.out HJ1.out).mono ?_
          rintro e B3 ⟨rfl, t⟩
          have HB3 : Hid (Touch (fun _ => False) w B3 ∧ OpAt w.heap.size o B3 ∧ True) := ⟨HB2.out.1.trans t, HB2.out.2.1.keep t, trivial⟩
          have hS2 : OpAt w.heap.size o B3 ∧ True := HB3.out.2
          clear t HB2
          refine hK.out _ _ hS2 (fun hHeld => ?_)
          clear hK K hS2
          refine wpAnyH_take (i := 5) (oi := { dst := some 6, op := Go.Op.assign (Go.Operand.tmp 106), type := 4, pos := "law.go:147", after := #[{ on := 4, ground := Go.Ground.data }, { on := 4, ground := Go.Ground.chain }, { on := 0, ground := Go.Ground.phase }, { on := 1, ground := Go.Ground.phase }, { on := 2, ground := Go.Ground.phase }, { on := 3, ground := Go.Ground.phase }, { on := 4, ground := Go.Ground.phase }], guard := none }) (v := .bool true) rfl (by kernel_rfl) (by kernel_rfl) (by kernel_rfl) (fun _ _ _ h => h) (Or.inl ⟨by rfl, ?_⟩) hHeld ?_
          · intro w hSw; clear hSw; go_simp
          simp only [Act.put, List.setIfInBounds_toArray]
          refine wpAnyH_done (by kernel_rfl) ?_ _
          try simp only [List.getElem_toArray, List.getElem_cons_succ, List.getElem_cons_zero, List.setIfInBounds_toArray, List.set_cons_succ, List.set_cons_zero]
          clear hHeld
          go_wp2_with fail
          go_ret
          exact ⟨rfl, HB3.out.1⟩
end Go.Proofs.YtphcnjbiojdalaaGreatDoor
