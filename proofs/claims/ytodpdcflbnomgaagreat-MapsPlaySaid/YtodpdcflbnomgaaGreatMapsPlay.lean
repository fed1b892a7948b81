/- quirelaw12.MapsPlay. -/
import Derived.Test.YtodpdcflbnomgaaGreatPlM
namespace Go.Proofs.YtodpdcflbnomgaaGreat
open Go.RowKit Go.Maps
set_option linter.unusedVariables false
set_option linter.unusedSimpArgs false
set_option maxRecDepth 100000

abbrev sxO (x : Sx) : Obj := .cells x.vals 44
def zeroSx : Sx := ⟨0, zeroO, .slice none 0 0, [], 0, 0, ⟨#[]⟩, .slice none 0 0, []⟩
theorem newSx (W : World) (x : Sx) : Touch (fun _ => False) W ((W.alloc (sxO zeroSx)).setCells W.heap.size 0 x.vals.toList) ∧ ((W.alloc (sxO zeroSx)).setCells W.heap.size 0 x.vals.toList).heap[W.heap.size]? = some (sxO x) := by
  refine ⟨((Touch.refl _ _).alloc _).stores (Nat.le_refl _) 0 _, ?_⟩
  rw [cells_storedS (heap_alloc_new W (sxO zeroSx))]
  kernel_rfl
theorem sx_cell {W : World} {X : Nat} {x : Sx} (h : W.heap[X]? = some (sxO x)) (j : Nat) : W.cell? ⟨X, j, none⟩ = x.vals[j]? := cell_of_block h
theorem sx_op {W : World} {X : Nat} {x : Sx} (h : W.heap[X]? = some (sxO x)) : W.rangeAt X 1 x.o.vals.toList := by
  intro j v hv
  have hj : j < 22 := (List.getElem?_eq_some_iff.1 hv).1
  rw [cell_of_block h]
  have h2 : x.vals.toList = .int .i64 x.what :: (x.o.vals.toList ++ [x.rv, .int .u64 x.pc, .int .u64 x.pk, .string x.ky, x.pv]) := by kernel_rfl
  rw [← Array.getElem?_toList, h2, Nat.add_comm, List.getElem?_cons_succ, List.getElem?_append_left hj]; exact hv
theorem sx_all {W : World} {X : Nat} {x : Sx} (h : W.heap[X]? = some (sxO x)) : W.rangeAt X 1 x.o.vals.toList ∧ W.rangeAt X 1 [.int .u64 x.o.c, .int .u64 x.o.k] ∧ W.rangeAt X 15 [.int .u64 x.o.pc, .int .u64 x.o.pk] := by
  refine ⟨sx_op h, fun j v hv => ?_, fun j v hv => ?_⟩
  · rw [sx_cell h]
    match j, hv with
    | 0, hv => rw [← hv]; rfl
    | 1, hv => rw [← hv]; rfl
    | j + 2, hv => simp at hv
  · rw [sx_cell h]
    match j, hv with
    | 0, hv => rw [← hv]; rfl
    | 1, hv => rw [← hv]; rfl
    | j + 2, hv => simp at hv
theorem sx_key {W : World} {X : Nat} {x : Sx} (h : W.heap[X]? = some (sxO x)) : W.rangeAt X 24 [.int .u64 x.pc, .int .u64 x.pk] ∧ W.cell? ⟨X, 26, none⟩ = some (.string x.ky) := by
  refine ⟨fun j v hv => ?_, by rw [sx_cell h]; rfl⟩
  rw [sx_cell h]
  match j, hv with
  | 0, hv => rw [← hv]; rfl
  | 1, hv => rw [← hv]; rfl
  | j + 2, hv => simp at hv
abbrev oT : ByteArray := ⟨#[111, 110, 108, 121, 32, 116, 104, 101, 114, 101]⟩
theorem setO_callP {ck st pc pk : Int} {ky : ByteArray} {v : V} {o : O} (ho : o = setO ck st pc pk ky v) : ∀ W, Calls Tryz.prog 16 #[.int .u64 ck, .int .u64 st, .agg #[.int .u64 pc, .int .u64 pk], .string ky, .agg #[.int .i64 v.k, .int .i64 v.n, .float .f64 v.f, .string v.s]] W fun e w' => e = .returned (.agg o.vals) ∧ Touch (fun _ => False) W w' := fun W => by
  have := setO_any ck st pc pk ky v W
  rw [← ho] at this; exact this
theorem idO_storedP {W : World} {X : Nat} {a b c d : Int} (h : W.heap[X]? = some (idO a b)) : (W.setCells X 0 [.int .u64 c, .int .u64 d]).heap[X]? = some (idO c d) := by
  rw [cells_storedS h]; rfl
theorem neq_idP (c k : Int) : True := trivial
set_option maxHeartbeats 64000000 in
theorem mapsPlay_any (w : World) (ao : Option Addr) (l : List Sx) (n cap : Nat) (hn : n = l.length) (h : LiesX w ao l) (hM : n ≤ cap) (hX : cap ≤ maxLen) :
    Calls Tryz.prog 3 #[.slice ao n cap] w fun e w' => e = .returned (.bool true) ∧ Touch (fun _ => False) w w' := by
  have HKn : Hid (Calls Tryz.prog 4 #[] w fun e w' => e = .returned (.bool true) ∧ Touch (fun _ => False) w w') := known_any w
  have hn1 : n ≤ 9223372036854775807 := by unfold maxLen at hX; omega
  have HL : Hid (n = l.length ∧ LiesX w ao l ∧ n ≤ cap ∧ cap ≤ maxLen) := ⟨hn, h, hM, hX⟩
  clear hn h hM hX
  go_enter Tryz.func3, Tryz.ntmps3
  go_wp2_with fail
  refine HKn.out.mono ?_
  rintro e w1 ⟨rfl, tk⟩
  have HT1 : Hid (Touch (fun _ => False) w w1) := tk
  clear tk HKn
  have HLt : Hid (Calls Tryz.prog 5 #[.slice ao n cap] w1 fun e w' => LtP w1 l e w') := light12_any w1 ao l n cap HL.out.1 ⟨fun x hx => (HL.out.2.1.ok x hx).touch HT1.out, fun i hi => by
    obtain ⟨g, off, e, hc⟩ := HL.out.2.1.at_ hi
    exact ⟨g, off, e, hc _ HT1.out⟩⟩ HL.out.2.2.1 HL.out.2.2.2
  go_wp2_with fail
  refine HLt.out.mono ?_
  rintro e v1 ⟨bl, rfl, hlt, t1⟩
  have HTv : Hid (Touch (fun _ => False) w v1) := HT1.out.trans t1
  clear t1 HT1 HLt
  cases bl with
  | false =>
    clear hlt
    go_wp2_with fail
    go_ret
    exact ⟨rfl, HTv.out⟩
  | true =>
  have HLT : Hid (l.length ≤ 60 ∧ ∀ x ∈ l, SxLt x) := hlt rfl
  clear hlt
  have HNA : Hid (Calls Tryz.prog 6 #[] v1 fun e w' => ∃ g, e = .returned (.pointer (some ⟨g, 0, none⟩)) ∧ Lv v1 (fun _ => False) w' g newS []) := lv_new v1
  go_wp2_with fail
  refine HNA.out.mono ?_
  rintro e w2 ⟨g0, rfl, hA2⟩
  have HS0 : Hid (St v1 (w2.alloc (.cells #[.slice none 0 0, .slice none 0 0] 31)) g0 w2.heap.size 0) := st_new hA2
  clear hA2 HNA
  go_wp2_with fail
  obtain ⟨b0, hb0⟩ : ∃ b, Hid (b = w2.heap.size) := ⟨_, Eq.refl _⟩
  obtain ⟨w3, hw3⟩ : ∃ W, Hid (W = w2.alloc (.cells #[.slice none 0 0, .slice none 0 0] 31)) := ⟨_, Eq.refl _⟩
  rw [← hb0.out, ← hw3.out] at HS0 ⊢
  clear hb0 hw3
  go_loopg [3, 4, 5] n (fun gk s3 s4 s5 wr => ∃ (i g b : Nat), i + gk = n ∧ s3 = .pointer (some ⟨g, 0, none⟩) ∧ s4 = .pointer (some ⟨b, 0, none⟩) ∧ s5 = .int .i64 (i : Int) ∧ Hid (St v1 wr g b i))
  case atStart => exact ⟨0, g0, b0, by omega, rfl, rfl, rfl, HS0⟩
  case round =>
    obtain ⟨i, g, b, hig, rfl, rfl, rfl, HR⟩ := hrel
    have Hig : Hid (i + gk = n) := hig
    clear hig
    by_cases hil : i < n
    · have l1 : (i : Int) < (n : Int) := by omega
      have hil2 : i < l.length := by have := HL.out.1; omega
      obtain ⟨xg, off, rfl, hc⟩ := HL.out.2.1.at_ hil2
      have hok := HL.out.2.1.ok _ (List.getElem_mem hil2)
      have hlt := HLT.out.2 _ (List.getElem_mem hil2)
      have hi60 : i + 1 ≤ 60 := by have := HLT.out.1; omega
      have hcr := hc wr (HTv.out.trans HR.out.touch0)
      generalize l[i] = x at hok hlt hc hcr
      obtain ⟨what, o, rv, R, pc, pk, ky, pv, ks⟩ := x
      have hok1 := hok.touch HTv.out
      obtain ⟨ra, rc, hrv, -⟩ := hok.r.shape
      obtain ⟨pa, pcp, hpv, -⟩ := hok.p
      simp only at hrv hpv
      subst hrv hpv
      have HX : Hid (SxOk v1 ⟨what, o, .slice ra R.length rc, R, pc, pk, ky, .slice pa ks.length pcp, ks⟩ ∧ SxLt ⟨what, o, .slice ra R.length rc, R, pc, pk, ky, .slice pa ks.length pcp, ks⟩) := ⟨hok1, hlt⟩
      clear hok hok1 hlt hc
      generalize hrl : R.length = rl at *
      generalize hkl : ks.length = kl at *
      go_upto_region 9 with fail
      refine wp_region_lit ?_
      iterate 3 (refine wpList_plain rfl fun K hK => ?_; go_simp; refine hK _ _ ?_; clear hK K)
      refine wpList_load_mid rfl 44 (.tmp 34) rfl xg (off + i * 28) rfl _ _ hcr Tryz.underlying44 rfl (by kernel_rfl) ?_
      simp only [Act.put, List.setIfInBounds_toArray, List.set_cons_succ, List.set_cons_zero]
      iterate 1 (refine wpList_plain rfl fun K hK => ?_; go_simp; refine hK _ _ ?_; clear hK K)
      refine wpList_store_mid rfl 44 (.tmp 6) (.tmp 35) rfl wr.heap.size 0 _ rfl rfl (there_ofS (heap_alloc_new wr (sxO zeroSx)) 0 28 (by decide)) (by kernel_rfl) (by kernel_rfl) ?_
      simp only [Act.put]
      have hnx := newSx wr ⟨what, o, .slice ra rl rc, R, pc, pk, ky, .slice pa kl pcp, ks⟩
      have HS1 := HR.out.box hnx.1 (Nat.le_refl _) hnx.2
      obtain ⟨X, hX⟩ : ∃ X, Hid (X = wr.heap.size) := ⟨_, Eq.refl _⟩
      obtain ⟨W1, hW1⟩ : ∃ W, Hid (W = (wr.alloc (sxO zeroSx)).setCells wr.heap.size 0 (Sx.vals ⟨what, o, .slice ra rl rc, R, pc, pk, ky, .slice pa kl pcp, ks⟩).toList) := ⟨_, Eq.refl _⟩
      rw [← hW1.out, ← hX.out] at HS1
      have hg : (wr.alloc (.cells #[.int .i64 0, .int .u64 0, .int .u64 0, .int .i64 0, .int .u64 0, .int .u64 0, .int .u64 0, .int .u64 0, .int .u64 0, .string ⟨#[]⟩, .int .i64 0, .int .i64 0, .float .f64 0, .string ⟨#[]⟩, .string ⟨#[]⟩, .int .u64 0, .int .u64 0, .int .u64 0, .int .u64 0, .bool false, .int .u64 0, .int .u64 0, .bool false, .slice none 0 0, .int .u64 0, .int .u64 0, .string ⟨#[]⟩, .slice none 0 0] 44)).setCells wr.heap.size 0 [.int .i64 what, .int .u64 o.c, .int .u64 o.k, .int .i64 o.kind, .int .u64 o.st, .int .u64 o.lc, .int .u64 o.lk, .int .u64 o.rc, .int .u64 o.rk, .string o.tx, .int .i64 o.vk, .int .i64 o.vn, .float .f64 o.vf, .string o.vs, .string o.ky, .int .u64 o.pc, .int .u64 o.pk, .int .u64 o.fc, .int .u64 o.fk, .bool o.fa, .int .u64 o.tc, .int .u64 o.tk, .bool o.ta, .slice ra rl rc, .int .u64 pc, .int .u64 pk, .string ky, .slice pa kl pcp] = W1 := by rw [hW1.out]; kernel_rfl
      rw [hg, ← hX.out]
      have HS1 : Hid (StX v1 W1 g b i X (sxO ⟨what, o, .slice ra rl rc, R, pc, pk, ky, .slice pa kl pcp, ks⟩)) := HS1
      clear hg hW1 hX hnx hcr HR
      have b0 : W1.cell? ⟨X, 0, none⟩ = some (.int .i64 what) := by rw [sx_cell HS1.out.block]; rfl
      by_cases h4 : what = 4
      · subst h4
        obtain ⟨vo, vc, w4, hrun, hN0⟩ : ∃ vo vc w4, (Builtin.append_ #[29, 29] 29 #[.slice none 0 0, .slice ra rl rc]).run Tryz.prog W1 = .ok (.slice vo rl vc) w4 ∧ Hid (NewR W1 w4 (.slice vo rl vc) R) := by
          obtain ⟨ao, cap, e, h1, h2, h3, h4⟩ := HX.out.1.r.touch HS1.out.touch0
          simp only [Value.slice.injEq] at e
          obtain ⟨rfl, -, rfl⟩ := e
          obtain ⟨v', W, hr, hN, -⟩ := (NewR.nil W1 W1 (Touch.refl _ _)).app ra rl rc R hrl.symm h1 h4 (by have := HX.out.2.r; simp only at this; simp; omega)
          rw [List.nil_append] at hN
          obtain ⟨po, pc, rfl, -⟩ := hN.sl.shape
          rw [hrl] at hr hN
          exact ⟨po, pc, W, hr, hN⟩
        have HHi : Hid (Calls Tryz.prog 7 #[.pointer (some ⟨g, 0, none⟩), .slice vo rl vc] w4 fun e w2 => e = .returned (.tuple #[]) ∧ HdX v1 W1 w2 g b i X (sxO ⟨4, o, .slice ra rl rc, R, pc, pk, ky, .slice pa kl pcp, ks⟩) R (.slice vo rl vc) rl) := by
          have := st_hide HS1.out hN0.out HX.out.2.r
          rw [hrl] at this; exact this
        have HRv : Hid (SlR v1 (.slice ra rl rc) R ∧ R.length ≤ 40 ∧ 0 ≤ 0) := ⟨HX.out.1.r, HX.out.2.r, Nat.le_refl _⟩
        have HCe : Hid (∀ W, Touch (fun _ => False) W1 W → W.cell? ⟨X, 23, none⟩ = some (.slice ra rl rc)) := fun W t => by rw [sx_cell (HS1.out.on t).block]; rfl
        have b23 := HCe.out W1 (Touch.refl _ _)
        have hvc : vc ≤ 9223372036854775807 ∧ rl ≤ vc ∧ (0 < rl → ∃ A, vo = some ⟨A, 0, none⟩) := by
          obtain ⟨ao, cap, e, q1, q2, q3⟩ := hN0.out.shape
          simp only [Value.slice.injEq] at e
          obtain ⟨rfl, e2, rfl⟩ := e
          rw [← e2] at q1 q2
          exact ⟨q3, q2, q1⟩
        have Hvc : Hid (vc ≤ 9223372036854775807 ∧ rl ≤ vc ∧ (0 < rl → ∃ A, vo = some ⟨A, 0, none⟩)) := hvc
        have hrl9 : rl ≤ 9223372036854775807 := by omega
        clear HX HS1 hN0 hvc
        go_upto_region 14 with fail
        refine wp_region_lit ?_
        iterate 2 (refine wpList_plain rfl fun K hK => ?_; go_simp; refine hK _ _ ?_; clear hK K)
        refine wpList_append_runR rfl (.const (.slice none 0 0)) (.tmp 76) rfl _ _ _ rfl rfl hrun ?_
        simp only [Act.put, List.setIfInBounds_toArray, List.set_cons_succ, List.set_cons_zero]
        clear hrun HCe b23
        iterate 1 (refine wpList_plain rfl fun K hK => ?_; go_simp; refine hK _ _ ?_; clear hK K)
        go_upto_region 15 with fail
        refine wp_region_lit ?_
        iterate 2 (refine wpList_plain rfl fun K hK => ?_; go_simp; refine hK _ _ ?_; clear hK K)
        refine wpList_plain rfl fun K hK => ?_
        go_simp
        refine HHi.out.mono ?_
        rintro e w5 ⟨rfl, hd5⟩
        refine hK _ _ ?_
        clear hK K HHi
        have HD5 : Hid (HdX v1 W1 w5 g b i X (sxO ⟨4, o, .slice ra rl rc, R, pc, pk, ky, .slice pa kl pcp, ks⟩) R (.slice vo rl vc) rl) := hd5
        clear hd5
        go_wp2_with fail
        go_loopg [8] rl (fun gk s8 wr => ∃ (k : Nat), k + gk = rl ∧ s8 = .int .i64 (k : Int) ∧ Hid (HdX v1 W1 wr g b i X (sxO ⟨4, o, .slice ra rl rc, R, pc, pk, ky, .slice pa kl pcp, ks⟩) R (.slice vo rl vc) rl))
        case atStart => exact ⟨0, by omega, rfl, HD5⟩
        case round =>
          obtain ⟨k, hkg, rfl, HD⟩ := hrel
          have Hkg : Hid (k + gk = rl) := hkg
          clear hkg HD5
          by_cases hkl2 : k < rl
          · have lk : (k : Int) < (rl : Int) := by omega
            obtain ⟨A, rfl⟩ := Hvc.out.2.2 (by omega)
            obtain ⟨w6, hw6⟩ : ∃ W, Hid (W = wr.setCells A (k * 3) [.int .u64 0, .int .u64 0, .int .u64 0]) := ⟨_, Eq.refl _⟩
            have HD6 : Hid (HdX v1 W1 w6 g b i X (sxO ⟨4, o, .slice ra rl rc, R, pc, pk, ky, .slice pa kl pcp, ks⟩) R (.slice (some ⟨A, 0, none⟩) rl vc) rl) := by rw [hw6.out]; exact hd_store HD.out hkl2
            have hth := hd_there HD.out hkl2
            clear HD
            go_upto_region 19 with fail
            refine wp_region_lit ?_
            iterate 4 (refine wpList_plain rfl fun K hK => ?_; go_simp; refine hK _ _ ?_; clear hK K)
            refine wpList_store_mid rfl 47 (.tmp 90) (.tmp 89) rfl A (k * 3) #[.int .u64 0, .int .u64 0, .int .u64 0] rfl rfl hth (by kernel_rfl) (by kernel_rfl) ?_
            simp only [Act.put]
            have hw6' : wr.setCells A (k * 3) [.int .u64 0, .int .u64 0, .int .u64 0] = w6 := by rw [hw6.out]
            rw [hw6']
            clear hw6 hw6' hth
            have wk : IntKind.i64.wrap ((k : Int) + 1) = ((k + 1 : Nat) : Int) := by rw [IntKind.wrap_i64] <;> omega
            go_wp2_with fail
            go_roundg (rl - (k + 1))
            case measure => have := Hkg.out; omega
            case rel => exact ⟨k + 1, by omega, rfl, HD6⟩
          · have lk : ¬ (k : Int) < (rl : Int) := by omega
            have HCp : Hid (Calls Tryz.prog 8 #[.pointer (some ⟨b, 0, none⟩)] wr fun e w2 => ∃ b', e = .returned (.pointer (some ⟨b', 0, none⟩)) ∧ w2.heap[X]? = some (sxO ⟨4, o, .slice ra rl rc, R, pc, pk, ky, .slice pa kl pcp, ks⟩) ∧ (∃ y, w2.cell? ⟨b', 1, none⟩ = some y) ∧ w2.frozen? ⟨b', 1, none⟩ = false ∧ StX v1 (w2.setCell ⟨b', 1, none⟩ (.slice ra rl rc)) g b' i X (sxO ⟨4, o, .slice ra rl rc, R, pc, pk, ky, .slice pa kl pcp, ks⟩)) := hd_copy HD.out (by omega) HRv.out.2.1 HRv.out.1
            clear HD HRv
            go_upto_region 20 with fail
            refine wp_region_lit ?_
            iterate 1 (refine wpList_plain rfl fun K hK => ?_; go_simp; refine hK _ _ ?_; clear hK K)
            refine wpList_plain rfl fun K hK => ?_
            go_simp
            refine HCp.out.mono ?_
            rintro e w6 ⟨b', rfl, hx6, ⟨y6, hy6⟩, hfz6, hst6⟩
            refine hK _ _ ?_
            clear hK K HCp
            have b23 : w6.cell? ⟨X, 23, none⟩ = some (.slice ra rl rc) := by rw [sx_cell hx6]; rfl
            have HS9 : Hid (St v1 (w6.setCell ⟨b', 1, none⟩ (.slice ra rl rc)) g b' (i + 1)) := hst6.st.more
            clear hx6 hst6
            iterate 1 (refine wpList_plain rfl fun K hK => ?_; go_simp; refine hK _ _ ?_; clear hK K)
            go_upto_region 21 with fail
            refine wp_region_lit ?_
            iterate 6 (refine wpList_plain rfl fun K hK => ?_; go_simp; refine hK _ _ ?_; clear hK K)
            obtain ⟨W9, hW9⟩ : ∃ W, Hid (W = w6.setCell ⟨b', 1, none⟩ (.slice ra rl rc)) := ⟨_, Eq.refl _⟩
            rw [← hW9.out] at HS9 ⊢
            clear hW9 hy6 hfz6 b23
            obtain ⟨T, hVm, hVr⟩ := st_text HS9.out hi60
            have HVm : Hid (∀ W, Touch (fun _ => False) W9 W → Calls Tryz.prog 21 #[.pointer (some ⟨g, 0, none⟩)] W fun e w' => ∃ v, e = .returned v ∧ Touch (fun _ => False) W w' ∧ Calls Tryz.prog 20 #[v] w' fun e w'' => e = .returned (.string T) ∧ Touch (fun _ => False) w' w'') := hVm
            have HVr : Hid (∀ W, Touch (fun _ => False) W9 W → Calls Tryz.prog 22 #[.pointer (some ⟨b', 0, none⟩)] W fun e w' => ∃ v, e = .returned v ∧ Touch (fun _ => False) W w' ∧ Calls Tryz.prog 20 #[v] w' fun e w'' => e = .returned (.string T) ∧ Touch (fun _ => False) w' w'') := hVr
            clear hVm hVr
            go_upto_region 36 with fail
            refine wp_region_lit ?_
            iterate 1 (refine wpList_plain rfl fun K hK => ?_; go_simp; refine hK _ _ ?_; clear hK K)
            refine wpList_plain rfl fun K hK => ?_
            go_simp
            refine (HVm.out W9 (Touch.refl _ _)).mono ?_
            rintro e W5 ⟨v5, rfl, t5, htx5⟩
            refine hK _ _ ?_
            clear hK K
            have HX5 : Hid (Calls Tryz.prog 20 #[v5] W5 fun e w'' => e = .returned (.string T) ∧ Touch (fun _ => False) W5 w'') := htx5
            have HT5 : Hid (Touch (fun _ => False) W9 W5) := t5
            clear htx5 t5 HVm
            refine wpList_plain rfl fun K hK => ?_
            go_simp
            refine HX5.out.mono ?_
            rintro e W6 ⟨rfl, t6⟩
            refine hK _ _ ?_
            clear hK K
            have HT6 : Hid (Touch (fun _ => False) W9 W6) := HT5.out.trans t6
            clear t6 HX5 HT5
            iterate 1 (refine wpList_plain rfl fun K hK => ?_; go_simp; refine hK _ _ ?_; clear hK K)
            refine wpList_plain rfl fun K hK => ?_
            go_simp
            refine (HVr.out W6 HT6.out).mono ?_
            rintro e W7 ⟨v7, rfl, t7, htx7⟩
            refine hK _ _ ?_
            clear hK K
            have HX7 : Hid (Calls Tryz.prog 20 #[v7] W7 fun e w'' => e = .returned (.string T) ∧ Touch (fun _ => False) W7 w'') := htx7
            have HT7 : Hid (Touch (fun _ => False) W9 W7) := HT6.out.trans t7
            clear htx7 t7 HVr HT6
            refine wpList_plain rfl fun K hK => ?_
            go_simp
            refine HX7.out.mono ?_
            rintro e W8 ⟨rfl, t8⟩
            refine hK _ _ ?_
            clear hK K
            have HT8 : Hid (Touch (fun _ => False) W9 W8) := HT7.out.trans t8
            clear t8 HX7 HT7
            iterate 1 (refine wpList_plain rfl fun K hK => ?_; go_simp; refine hK _ _ ?_; clear hK K)
            have wi : IntKind.i64.wrap ((i : Int) + 1) = ((i + 1 : Nat) : Int) := by rw [IntKind.wrap_i64] <;> omega
            have HS10 : Hid (St v1 W8 g b' (i + 1)) := HS9.out.on HT8.out
            clear HT8 HS9
            go_wp2_with fail
            go_roundg (n - (i + 1))
            case measure => have := Hig.out; omega
            case rel => exact ⟨i + 1, g, b', by omega, rfl, rfl, rfl, HS10⟩
      by_cases h5 : what = 5
      · subst h5
        obtain ⟨A, B, bs, hGm, hGr, hSm⟩ := st_get HS1.out.st HX.out.1.pc HX.out.1.pk ky (by have := HX.out.2.key; simp only at this; omega)
        have HGm : Hid (∀ W, Touch (fun _ => False) W1 W → Calls Tryz.prog 9 #[.pointer (some ⟨g, 0, none⟩), .agg #[.int .u64 pc, .int .u64 pk], .string ky] W fun e w' => e = .returned (.tuple #[.agg A.vals, .bool bs]) ∧ Touch (fun _ => False) W w') := hGm
        have HGr : Hid (∀ W, Touch (fun _ => False) W1 W → Calls Tryz.prog 10 #[.pointer (some ⟨b, 0, none⟩), .agg #[.int .u64 pc, .int .u64 pk], .string ky] W fun e w' => e = .returned (.tuple #[.agg B.vals, .bool bs]) ∧ Touch (fun _ => False) W w') := hGr
        have HSm : Hid (∀ W, Calls Tryz.prog 11 #[.agg A.vals, .agg B.vals] W fun e w' => e = .returned (.bool true) ∧ Touch (fun _ => False) W w') := hSm
        have HCe : Hid (∀ W, Touch (fun _ => False) W1 W → W.rangeAt X 24 [.int .u64 pc, .int .u64 pk] ∧ W.cell? ⟨X, 26, none⟩ = some (.string ky)) := fun W t => sx_key (HS1.out.on t).block
        clear hGm hGr hSm HX
        go_upto_region 23 with fail
        refine wp_region_lit ?_
        iterate 2 (refine wpList_plain rfl fun K hK => ?_; go_simp; refine hK _ _ ?_; clear hK K)
        refine wpList_load_mid rfl 34 (.tmp 102) rfl X 24 rfl [.int .u64 pc, .int .u64 pk] _ (HCe.out W1 (Touch.refl _ _)).1 Tryz.underlying34 rfl (by kernel_rfl) ?_
        simp only [Act.put, List.setIfInBounds_toArray, List.set_cons_succ, List.set_cons_zero]
        have b26 := (HCe.out W1 (Touch.refl _ _)).2
        iterate 2 (refine wpList_plain rfl fun K hK => ?_; go_simp; refine hK _ _ ?_; clear hK K)
        refine wpList_plain rfl fun K hK => ?_
        go_simp
        refine (HGm.out W1 (Touch.refl _ _)).mono ?_
        rintro e w5 ⟨rfl, t5⟩
        refine hK _ _ ?_
        clear hK K b26
        iterate 4 (refine wpList_plain rfl fun K hK => ?_; go_simp; refine hK _ _ ?_; clear hK K)
        refine wpList_store_mid rfl 41 (.tmp 9) (.tmp 107) rfl w5.heap.size 0 A.vals rfl rfl (OpAt.there (o := zeroO) (heap_alloc_new w5 zeroOp) 0 22 (by decide)) (by kernel_rfl) (by kernel_rfl) ?_
        simp only [Act.put]
        have hn6 := newOpM w5 A
        obtain ⟨Z, hZ⟩ : ∃ X, Hid (X = w5.heap.size) := ⟨_, Eq.refl _⟩
        obtain ⟨W6, hW6⟩ : ∃ W, Hid (W = (w5.alloc zeroOp).setCells w5.heap.size 0 A.vals.toList) := ⟨_, Eq.refl _⟩
        rw [← hW6.out] at hn6 ⊢
        rw [← hZ.out] at hn6 ⊢
        have HT6 : Hid (Touch (fun _ => False) W1 W6 ∧ OpAt Z A W6) := ⟨t5.trans hn6.1, hn6.2⟩
        clear hW6 hZ hn6 t5 HGm
        iterate 1 (refine wpList_plain rfl fun K hK => ?_; go_simp; refine hK _ _ ?_; clear hK K)
        generalize Value.agg A.vals = av
        go_upto_region 24 with fail
        refine wp_region_lit ?_
        iterate 2 (refine wpList_plain rfl fun K hK => ?_; go_simp; refine hK _ _ ?_; clear hK K)
        refine wpList_load_mid rfl 34 (.tmp 111) rfl X 24 rfl [.int .u64 pc, .int .u64 pk] _ (HCe.out W6 HT6.out.1).1 Tryz.underlying34 rfl (by kernel_rfl) ?_
        simp only [Act.put, List.setIfInBounds_toArray, List.set_cons_succ, List.set_cons_zero]
        have b26 := (HCe.out W6 HT6.out.1).2
        iterate 2 (refine wpList_plain rfl fun K hK => ?_; go_simp; refine hK _ _ ?_; clear hK K)
        refine wpList_plain rfl fun K hK => ?_
        go_simp
        refine (HGr.out W6 HT6.out.1).mono ?_
        rintro e w7 ⟨rfl, t7⟩
        refine hK _ _ ?_
        clear hK K b26
        iterate 4 (refine wpList_plain rfl fun K hK => ?_; go_simp; refine hK _ _ ?_; clear hK K)
        refine wpList_store_mid rfl 41 (.tmp 11) (.tmp 116) rfl w7.heap.size 0 B.vals rfl rfl (OpAt.there (o := zeroO) (heap_alloc_new w7 zeroOp) 0 22 (by decide)) (by kernel_rfl) (by kernel_rfl) ?_
        simp only [Act.put]
        have hn8 := newOpM w7 B
        obtain ⟨Y, hY⟩ : ∃ X, Hid (X = w7.heap.size) := ⟨_, Eq.refl _⟩
        obtain ⟨W8, hW8⟩ : ∃ W, Hid (W = (w7.alloc zeroOp).setCells w7.heap.size 0 B.vals.toList) := ⟨_, Eq.refl _⟩
        rw [← hW8.out] at hn8 ⊢
        rw [← hY.out] at hn8 ⊢
        have HT8 : Hid (Touch (fun _ => False) W1 W8 ∧ OpAt Z A W8 ∧ OpAt Y B W8) := ⟨HT6.out.1.trans (t7.trans hn8.1), HT6.out.2.keep (t7.trans hn8.1), hn8.2⟩
        clear hW8 hY hn8 t7 HGr HCe HT6
        iterate 1 (refine wpList_plain rfl fun K hK => ?_; go_simp; refine hK _ _ ?_; clear hK K)
        generalize Value.agg B.vals = bv
        go_upto_region 25 with fail
        have hne : (bs != bs) = false := by simp
        refine wp_region_lit ?_
        iterate 4 (refine wpList_plain rfl fun K hK => ?_; go_simp; refine hK _ _ ?_; clear hK K)
        refine wpList_step fun K hK => ?_
        rw [if_pos (by kernel_rfl)]
        refine wp_load_mid 41 (.tmp 9) rfl Z 0 rfl A.vals.toList _ (rangeAt_of HT8.out.2.1) Tryz.underlying41 rfl (by kernel_rfl) (hK _ _ ?_)
        clear hK K
        simp only [Act.put, List.setIfInBounds_toArray, List.set_cons_succ, List.set_cons_zero]
        refine wpList_step fun K hK => ?_
        rw [if_pos (by kernel_rfl)]
        refine wp_load_mid 41 (.tmp 11) rfl Y 0 rfl B.vals.toList _ (rangeAt_of HT8.out.2.2) Tryz.underlying41 rfl (by kernel_rfl) (hK _ _ ?_)
        clear hK K
        simp only [Act.put, List.setIfInBounds_toArray, List.set_cons_succ, List.set_cons_zero]
        refine wpList_step fun K hK => ?_
        rw [if_pos (by kernel_rfl)]
        go_simp
        refine (HSm.out W8).mono ?_
        rintro e w9 ⟨rfl, t9⟩
        refine hK _ _ ?_
        clear hK K
        have HS9 : Hid (St v1 w9 g b (i + 1)) := (HS1.out.st.on (HT8.out.1.trans t9)).more
        clear t9 HT8 HSm HS1
        iterate 2 (refine wpList_step fun K hK => ?_; rw [if_pos (by kernel_rfl)]; go_simp; refine hK _ _ ?_; clear hK K)
        obtain ⟨T, hVm, hVr⟩ := st_text HS9.out hi60
        have HVm : Hid (∀ W, Touch (fun _ => False) w9 W → Calls Tryz.prog 21 #[.pointer (some ⟨g, 0, none⟩)] W fun e w' => ∃ v, e = .returned v ∧ Touch (fun _ => False) W w' ∧ Calls Tryz.prog 20 #[v] w' fun e w'' => e = .returned (.string T) ∧ Touch (fun _ => False) w' w'') := hVm
        have HVr : Hid (∀ W, Touch (fun _ => False) w9 W → Calls Tryz.prog 22 #[.pointer (some ⟨b, 0, none⟩)] W fun e w' => ∃ v, e = .returned v ∧ Touch (fun _ => False) W w' ∧ Calls Tryz.prog 20 #[v] w' fun e w'' => e = .returned (.string T) ∧ Touch (fun _ => False) w' w'') := hVr
        clear hVm hVr
        go_upto_region 36 with fail
        refine wp_region_lit ?_
        iterate 1 (refine wpList_plain rfl fun K hK => ?_; go_simp; refine hK _ _ ?_; clear hK K)
        refine wpList_plain rfl fun K hK => ?_
        go_simp
        refine (HVm.out w9 (Touch.refl _ _)).mono ?_
        rintro e W5 ⟨v5, rfl, t5, htx5⟩
        refine hK _ _ ?_
        clear hK K
        have HX5 : Hid (Calls Tryz.prog 20 #[v5] W5 fun e w'' => e = .returned (.string T) ∧ Touch (fun _ => False) W5 w'') := htx5
        have HT5 : Hid (Touch (fun _ => False) w9 W5) := t5
        clear htx5 t5 HVm
        refine wpList_plain rfl fun K hK => ?_
        go_simp
        refine HX5.out.mono ?_
        rintro e W6 ⟨rfl, t6⟩
        refine hK _ _ ?_
        clear hK K
        have HT6 : Hid (Touch (fun _ => False) w9 W6) := HT5.out.trans t6
        clear t6 HX5 HT5
        iterate 1 (refine wpList_plain rfl fun K hK => ?_; go_simp; refine hK _ _ ?_; clear hK K)
        refine wpList_plain rfl fun K hK => ?_
        go_simp
        refine (HVr.out W6 HT6.out).mono ?_
        rintro e W7 ⟨v7, rfl, t7, htx7⟩
        refine hK _ _ ?_
        clear hK K
        have HX7 : Hid (Calls Tryz.prog 20 #[v7] W7 fun e w'' => e = .returned (.string T) ∧ Touch (fun _ => False) W7 w'') := htx7
        have HT7 : Hid (Touch (fun _ => False) w9 W7) := HT6.out.trans t7
        clear htx7 t7 HVr HT6
        refine wpList_plain rfl fun K hK => ?_
        go_simp
        refine HX7.out.mono ?_
        rintro e W8 ⟨rfl, t8⟩
        refine hK _ _ ?_
        clear hK K
        have HT8 : Hid (Touch (fun _ => False) w9 W8) := HT7.out.trans t8
        clear t8 HX7 HT7
        iterate 1 (refine wpList_plain rfl fun K hK => ?_; go_simp; refine hK _ _ ?_; clear hK K)
        have wi : IntKind.i64.wrap ((i : Int) + 1) = ((i + 1 : Nat) : Int) := by rw [IntKind.wrap_i64] <;> omega
        have HS10 : Hid (St v1 W8 g b (i + 1)) := HS9.out.on HT8.out
        clear HT8 HS9
        go_wp2_with fail
        go_roundg (n - (i + 1))
        case measure => have := Hig.out; omega
        case rel => exact ⟨i + 1, g, b, by omega, rfl, rfl, rfl, HS10⟩
      by_cases h6 : what = 6
      · subst h6
        obtain ⟨fc, fk, bs, hFm, hFr⟩ := st_find (v := .slice pa kl pcp) (ks := ks) HS1.out.st (by
          obtain ⟨ao, cap, e, hi⟩ := HX.out.1.p
          exact ⟨ao, cap, e, fun i hl => by
            obtain ⟨b, o, e, hc⟩ := hi i hl
            exact ⟨b, o, e, fun W' t' => hc W' (HS1.out.touch0.trans t')⟩⟩) HX.out.1.pl (by have := HX.out.2.path; simp only at this; omega)
        have HFm : Hid (∀ W, Touch (fun _ => False) W1 W → Calls Tryz.prog 12 #[.pointer (some ⟨g, 0, none⟩), .slice pa kl pcp] W fun e w' => e = .returned (.tuple #[.agg #[.int .u64 fc, .int .u64 fk], .bool bs]) ∧ Touch (fun _ => False) W w') := hFm
        have HFr : Hid (∀ W, Touch (fun _ => False) W1 W → Calls Tryz.prog 13 #[.pointer (some ⟨b, 0, none⟩), .slice pa kl pcp] W fun e w' => e = .returned (.tuple #[.agg #[.int .u64 fc, .int .u64 fk], .bool bs]) ∧ Touch (fun _ => False) W w') := hFr
        have HCe : Hid (∀ W, Touch (fun _ => False) W1 W → W.cell? ⟨X, 27, none⟩ = some (.slice pa kl pcp)) := fun W t => by rw [sx_cell (HS1.out.on t).block]; rfl
        clear hFm hFr HX
        go_upto_region 28 with fail
        refine wp_region_lit ?_
        have b27 := HCe.out W1 (Touch.refl _ _)
        iterate 3 (refine wpList_plain rfl fun K hK => ?_; go_simp; refine hK _ _ ?_; clear hK K)
        refine wpList_plain rfl fun K hK => ?_
        go_simp
        refine (HFm.out W1 (Touch.refl _ _)).mono ?_
        rintro e w5 ⟨rfl, t5⟩
        refine hK _ _ ?_
        clear hK K b27
        iterate 4 (refine wpList_plain rfl fun K hK => ?_; go_simp; refine hK _ _ ?_; clear hK K)
        refine wpList_store_mid rfl 34 (.tmp 13) (.tmp 134) rfl w5.heap.size 0 #[.int .u64 fc, .int .u64 fk] rfl rfl (there_ofS (heap_alloc_new w5 (idO 0 0)) 0 2 (by decide)) (by kernel_rfl) (by kernel_rfl) ?_
        simp only [Act.put]
        obtain ⟨Z, hZ⟩ : ∃ X, Hid (X = w5.heap.size) := ⟨_, Eq.refl _⟩
        obtain ⟨W6, hW6⟩ : ∃ W, Hid (W = (w5.alloc (idO 0 0)).setCells w5.heap.size 0 [.int .u64 fc, .int .u64 fk]) := ⟨_, Eq.refl _⟩
        have hq6 : Touch (fun _ => False) w5 W6 ∧ W6.heap[Z]? = some (idO fc fk) := by
          rw [hW6.out, hZ.out]
          exact ⟨((Touch.refl _ _).alloc _).stores (Nat.le_refl _) 0 _, idO_storedP (heap_alloc_new w5 (idO 0 0))⟩
        rw [← hW6.out, ← hZ.out]
        have HT6 : Hid (Touch (fun _ => False) W1 W6 ∧ W6.heap[Z]? = some (idO fc fk)) := ⟨t5.trans hq6.1, hq6.2⟩
        clear hW6 hZ hq6 t5 HFm
        iterate 1 (refine wpList_plain rfl fun K hK => ?_; go_simp; refine hK _ _ ?_; clear hK K)
        go_upto_region 29 with fail
        refine wp_region_lit ?_
        have b27 := HCe.out W6 HT6.out.1
        iterate 3 (refine wpList_plain rfl fun K hK => ?_; go_simp; refine hK _ _ ?_; clear hK K)
        refine wpList_plain rfl fun K hK => ?_
        go_simp
        refine (HFr.out W6 HT6.out.1).mono ?_
        rintro e w7 ⟨rfl, t7⟩
        refine hK _ _ ?_
        clear hK K b27
        iterate 4 (refine wpList_plain rfl fun K hK => ?_; go_simp; refine hK _ _ ?_; clear hK K)
        refine wpList_store_mid rfl 34 (.tmp 15) (.tmp 141) rfl w7.heap.size 0 #[.int .u64 fc, .int .u64 fk] rfl rfl (there_ofS (heap_alloc_new w7 (idO 0 0)) 0 2 (by decide)) (by kernel_rfl) (by kernel_rfl) ?_
        simp only [Act.put]
        obtain ⟨Y, hY⟩ : ∃ X, Hid (X = w7.heap.size) := ⟨_, Eq.refl _⟩
        obtain ⟨V8, hV8⟩ : ∃ W, Hid (W = (w7.alloc (idO 0 0)).setCells w7.heap.size 0 [.int .u64 fc, .int .u64 fk]) := ⟨_, Eq.refl _⟩
        have hq8 : Touch (fun _ => False) w7 V8 ∧ V8.heap[Y]? = some (idO fc fk) := by
          rw [hV8.out, hY.out]
          exact ⟨((Touch.refl _ _).alloc _).stores (Nat.le_refl _) 0 _, idO_storedP (heap_alloc_new w7 (idO 0 0))⟩
        rw [← hV8.out, ← hY.out]
        have HT8 : Hid (Touch (fun _ => False) W1 V8 ∧ V8.heap[Z]? = some (idO fc fk) ∧ V8.heap[Y]? = some (idO fc fk)) := ⟨HT6.out.1.trans (t7.trans hq8.1), ((t7.trans hq8.1).block Z (lt_of_heap HT6.out.2) id).trans HT6.out.2, hq8.2⟩
        clear hV8 hY hq8 t7 HFr HCe HT6
        iterate 1 (refine wpList_plain rfl fun K hK => ?_; go_simp; refine hK _ _ ?_; clear hK K)
        go_upto_region 30 with fail
        have hne : (bs != bs) = false := by simp
        have hni := neq_idP fc fk
        refine wp_region_lit ?_
        iterate 4 (refine wpList_plain rfl fun K hK => ?_; go_simp; refine hK _ _ ?_; clear hK K)
        refine wpList_step fun K hK => ?_
        rw [if_pos (by kernel_rfl)]
        refine wp_load_mid 34 (.tmp 13) rfl Z 0 rfl [.int .u64 fc, .int .u64 fk] _ (rangeAt_id HT8.out.2.1) Tryz.underlying34 rfl (by kernel_rfl) (hK _ _ ?_)
        clear hK K
        simp only [Act.put, List.setIfInBounds_toArray, List.set_cons_succ, List.set_cons_zero]
        refine wpList_step fun K hK => ?_
        rw [if_pos (by kernel_rfl)]
        refine wp_load_mid 34 (.tmp 15) rfl Y 0 rfl [.int .u64 fc, .int .u64 fk] _ (rangeAt_id HT8.out.2.2) Tryz.underlying34 rfl (by kernel_rfl) (hK _ _ ?_)
        clear hK K
        simp only [Act.put, List.setIfInBounds_toArray, List.set_cons_succ, List.set_cons_zero]
        have HS9 : Hid (St v1 V8 g b (i + 1)) := (HS1.out.st.on HT8.out.1).more
        clear HT8 HS1
        iterate 2 (refine wpList_step fun K hK => ?_; rw [if_pos (by kernel_rfl)]; go_simp; refine hK _ _ ?_; clear hK K)
        obtain ⟨T, hVm, hVr⟩ := st_text HS9.out hi60
        have HVm : Hid (∀ W, Touch (fun _ => False) V8 W → Calls Tryz.prog 21 #[.pointer (some ⟨g, 0, none⟩)] W fun e w' => ∃ v, e = .returned v ∧ Touch (fun _ => False) W w' ∧ Calls Tryz.prog 20 #[v] w' fun e w'' => e = .returned (.string T) ∧ Touch (fun _ => False) w' w'') := hVm
        have HVr : Hid (∀ W, Touch (fun _ => False) V8 W → Calls Tryz.prog 22 #[.pointer (some ⟨b, 0, none⟩)] W fun e w' => ∃ v, e = .returned v ∧ Touch (fun _ => False) W w' ∧ Calls Tryz.prog 20 #[v] w' fun e w'' => e = .returned (.string T) ∧ Touch (fun _ => False) w' w'') := hVr
        clear hVm hVr
        go_upto_region 36 with fail
        refine wp_region_lit ?_
        iterate 1 (refine wpList_plain rfl fun K hK => ?_; go_simp; refine hK _ _ ?_; clear hK K)
        refine wpList_plain rfl fun K hK => ?_
        go_simp
        refine (HVm.out V8 (Touch.refl _ _)).mono ?_
        rintro e W5 ⟨v5, rfl, t5, htx5⟩
        refine hK _ _ ?_
        clear hK K
        have HX5 : Hid (Calls Tryz.prog 20 #[v5] W5 fun e w'' => e = .returned (.string T) ∧ Touch (fun _ => False) W5 w'') := htx5
        have HT5 : Hid (Touch (fun _ => False) V8 W5) := t5
        clear htx5 t5 HVm
        refine wpList_plain rfl fun K hK => ?_
        go_simp
        refine HX5.out.mono ?_
        rintro e W6 ⟨rfl, t6⟩
        refine hK _ _ ?_
        clear hK K
        have HT6 : Hid (Touch (fun _ => False) V8 W6) := HT5.out.trans t6
        clear t6 HX5 HT5
        iterate 1 (refine wpList_plain rfl fun K hK => ?_; go_simp; refine hK _ _ ?_; clear hK K)
        refine wpList_plain rfl fun K hK => ?_
        go_simp
        refine (HVr.out W6 HT6.out).mono ?_
        rintro e W7 ⟨v7, rfl, t7, htx7⟩
        refine hK _ _ ?_
        clear hK K
        have HX7 : Hid (Calls Tryz.prog 20 #[v7] W7 fun e w'' => e = .returned (.string T) ∧ Touch (fun _ => False) W7 w'') := htx7
        have HT7 : Hid (Touch (fun _ => False) V8 W7) := HT6.out.trans t7
        clear htx7 t7 HVr HT6
        refine wpList_plain rfl fun K hK => ?_
        go_simp
        refine HX7.out.mono ?_
        rintro e W8 ⟨rfl, t8⟩
        refine hK _ _ ?_
        clear hK K
        have HT8 : Hid (Touch (fun _ => False) V8 W8) := HT7.out.trans t8
        clear t8 HX7 HT7
        iterate 1 (refine wpList_plain rfl fun K hK => ?_; go_simp; refine hK _ _ ?_; clear hK K)
        have wi : IntKind.i64.wrap ((i : Int) + 1) = ((i + 1 : Nat) : Int) := by rw [IntKind.wrap_i64] <;> omega
        have HS10 : Hid (St v1 W8 g b (i + 1)) := HS9.out.on HT8.out
        clear HT8 HS9
        go_wp2_with fail
        go_roundg (n - (i + 1))
        case measure => have := Hig.out; omega
        case rel => exact ⟨i + 1, g, b, by omega, rfl, rfl, rfl, HS10⟩
      by_cases h7 : what = 7
      · subst h7
        have HCp : Hid (Calls Tryz.prog 14 #[.pointer (some ⟨g, 0, none⟩)] W1 fun e w1 => ∃ g', e = .returned (.pointer (some ⟨g', 0, none⟩)) ∧ Touch (fun _ => False) W1 w1 ∧ ∀ (o : O) W, o.fits → o.ky.size ≤ 281474976710656 → Touch (fun _ => False) w1 W → Calls Tryz.prog 15 #[.pointer (some ⟨g, 0, none⟩), o.val] W fun e w2 => (∃ bb, e = .returned (.bool bb)) ∧ StX v1 w2 g' b i X _) := st_copy HS1.out
        clear HX
        go_upto_region 33 with fail
        refine wp_region_lit ?_
        iterate 1 (refine wpList_plain rfl fun K hK => ?_; go_simp; refine hK _ _ ?_; clear hK K)
        refine wpList_plain rfl fun K hK => ?_
        go_simp
        refine HCp.out.mono ?_
        rintro e w4 ⟨g', rfl, t4, hs4⟩
        refine hK _ _ ?_
        clear hK K HCp HS1
        obtain ⟨os, hos⟩ : ∃ os, Hid (os = setO 999999 1125899906842624 0 0 oT ⟨2, 1, 0, ⟨#[]⟩⟩) := ⟨_, Eq.refl _⟩
        have hSo := setO_callP hos.out
        have HSo : Hid (∀ W, Calls Tryz.prog 16 #[.int .u64 999999, .int .u64 1125899906842624, .agg #[.int .u64 0, .int .u64 0], .string ⟨#[111, 110, 108, 121, 32, 116, 104, 101, 114, 101]⟩, .agg #[.int .i64 2, .int .i64 1, .float .f64 0, .string ⟨#[]⟩]] W fun e w' => e = .returned (.agg os.vals) ∧ Touch (fun _ => False) W w') := hSo
        have HS4 : Hid (∀ W, Touch (fun _ => False) w4 W → Calls Tryz.prog 15 #[.pointer (some ⟨g, 0, none⟩), .agg os.vals] W fun e w2 => (∃ bb, e = .returned (.bool bb)) ∧ StX v1 w2 g' b i X _) := fun W t => hs4 os W (by rw [hos.out]; exact setO_fits (by decide) (by decide) (by decide) (by decide) (by decide) (by decide) (by decide)) (by rw [hos.out]; decide) t
        clear hSo hs4 t4 hos
        iterate 1 (refine wpList_plain rfl fun K hK => ?_; go_simp; refine hK _ _ ?_; clear hK K)
        go_upto_region 34 with fail
        refine wp_region_lit ?_
        iterate 3 (refine wpList_plain rfl fun K hK => ?_; go_simp; refine hK _ _ ?_; clear hK K)
        refine wpList_plain rfl fun K hK => ?_
        go_simp
        refine (HSo.out w4).mono ?_
        rintro e w5 ⟨rfl, t5⟩
        refine hK _ _ ?_
        clear hK K
        refine wpList_plain rfl fun K hK => ?_
        go_simp
        refine (HS4.out w5 t5).mono ?_
        rintro e w6 ⟨⟨bb, rfl⟩, hs6⟩
        refine hK _ _ ?_
        clear hK K
        have HS9 : Hid (St v1 w6 g' b (i + 1)) := hs6.st.more
        clear t5 hs6 HSo HS4
        obtain ⟨T, hVm, hVr⟩ := st_text HS9.out hi60
        have HVm : Hid (∀ W, Touch (fun _ => False) w6 W → Calls Tryz.prog 21 #[.pointer (some ⟨g', 0, none⟩)] W fun e w' => ∃ v, e = .returned v ∧ Touch (fun _ => False) W w' ∧ Calls Tryz.prog 20 #[v] w' fun e w'' => e = .returned (.string T) ∧ Touch (fun _ => False) w' w'') := hVm
        have HVr : Hid (∀ W, Touch (fun _ => False) w6 W → Calls Tryz.prog 22 #[.pointer (some ⟨b, 0, none⟩)] W fun e w' => ∃ v, e = .returned v ∧ Touch (fun _ => False) W w' ∧ Calls Tryz.prog 20 #[v] w' fun e w'' => e = .returned (.string T) ∧ Touch (fun _ => False) w' w'') := hVr
        clear hVm hVr
        go_upto_region 36 with fail
        refine wp_region_lit ?_
        iterate 1 (refine wpList_plain rfl fun K hK => ?_; go_simp; refine hK _ _ ?_; clear hK K)
        refine wpList_plain rfl fun K hK => ?_
        go_simp
        refine (HVm.out w6 (Touch.refl _ _)).mono ?_
        rintro e W5 ⟨v5, rfl, t5, htx5⟩
        refine hK _ _ ?_
        clear hK K
        have HX5 : Hid (Calls Tryz.prog 20 #[v5] W5 fun e w'' => e = .returned (.string T) ∧ Touch (fun _ => False) W5 w'') := htx5
        have HT5 : Hid (Touch (fun _ => False) w6 W5) := t5
        clear htx5 t5 HVm
        refine wpList_plain rfl fun K hK => ?_
        go_simp
        refine HX5.out.mono ?_
        rintro e W6 ⟨rfl, t6⟩
        refine hK _ _ ?_
        clear hK K
        have HT6 : Hid (Touch (fun _ => False) w6 W6) := HT5.out.trans t6
        clear t6 HX5 HT5
        iterate 1 (refine wpList_plain rfl fun K hK => ?_; go_simp; refine hK _ _ ?_; clear hK K)
        refine wpList_plain rfl fun K hK => ?_
        go_simp
        refine (HVr.out W6 HT6.out).mono ?_
        rintro e W7 ⟨v7, rfl, t7, htx7⟩
        refine hK _ _ ?_
        clear hK K
        have HX7 : Hid (Calls Tryz.prog 20 #[v7] W7 fun e w'' => e = .returned (.string T) ∧ Touch (fun _ => False) W7 w'') := htx7
        have HT7 : Hid (Touch (fun _ => False) w6 W7) := HT6.out.trans t7
        clear htx7 t7 HVr HT6
        refine wpList_plain rfl fun K hK => ?_
        go_simp
        refine HX7.out.mono ?_
        rintro e W8 ⟨rfl, t8⟩
        refine hK _ _ ?_
        clear hK K
        have HT8 : Hid (Touch (fun _ => False) w6 W8) := HT7.out.trans t8
        clear t8 HX7 HT7
        iterate 1 (refine wpList_plain rfl fun K hK => ?_; go_simp; refine hK _ _ ?_; clear hK K)
        have wi : IntKind.i64.wrap ((i : Int) + 1) = ((i + 1 : Nat) : Int) := by rw [IntKind.wrap_i64] <;> omega
        have HS10 : Hid (St v1 W8 g' b (i + 1)) := HS9.out.on HT8.out
        clear HT8 HS9
        go_wp2_with fail
        go_roundg (n - (i + 1))
        case measure => have := Hig.out; omega
        case rel => exact ⟨i + 1, g', b, by omega, rfl, rfl, rfl, HS10⟩
      go_upto_region 11 with fail
      obtain ⟨ob, hob⟩ : ∃ ob, Hid (ob = sxO ⟨what, o, .slice ra rl rc, R, pc, pk, ky, .slice pa kl pcp, ks⟩) := ⟨_, Eq.refl _⟩
      have HS : Hid (∀ V : World, V.heap[X]? = some ob → V.rangeAt X 1 [.int .u64 o.c, .int .u64 o.k, .int .i64 o.kind, .int .u64 o.st, .int .u64 o.lc, .int .u64 o.lk, .int .u64 o.rc, .int .u64 o.rk, .string o.tx, .int .i64 o.vk, .int .i64 o.vn, .float .f64 o.vf, .string o.vs, .string o.ky, .int .u64 o.pc, .int .u64 o.pk, .int .u64 o.fc, .int .u64 o.fk, .bool o.fa, .int .u64 o.tc, .int .u64 o.tk, .bool o.ta] ∧ V.rangeAt X 1 [.int .u64 o.c, .int .u64 o.k] ∧ V.rangeAt X 15 [.int .u64 o.pc, .int .u64 o.pk]) := fun V hV => by
        rw [hob.out] at hV
        exact sx_all hV
      rw [← hob.out] at HS1
      clear hob
      obtain ⟨V, hV⟩ : ∃ V, Hid (V = W1.drew) := ⟨_, Eq.refl _⟩
      have HSV : Hid (StX v1 V g b i X ob) := by rw [hV.out]; exact HS1.out.on (Touch.refl _ _).drew
      have HSet : Hid (Calls Tryz.prog 15 #[.pointer (some ⟨g, 0, none⟩), .agg #[.int .u64 o.c, .int .u64 o.k, .int .i64 o.kind, .int .u64 o.st, .int .u64 o.lc, .int .u64 o.lk, .int .u64 o.rc, .int .u64 o.rk, .string o.tx, .int .i64 o.vk, .int .i64 o.vn, .float .f64 o.vf, .string o.vs, .string o.ky, .int .u64 o.pc, .int .u64 o.pk, .int .u64 o.fc, .int .u64 o.fk, .bool o.fa, .int .u64 o.tc, .int .u64 o.tk, .bool o.ta]] V fun e w1 => ∃ bb, e = .returned (.bool bb) ∧ w1.heap[X]? = some ob ∧ Calls Tryz.prog 17 #[.pointer (some ⟨b, 0, none⟩), .agg #[.int .u64 o.c, .int .u64 o.k, .int .i64 o.kind, .int .u64 o.st, .int .u64 o.lc, .int .u64 o.lk, .int .u64 o.rc, .int .u64 o.rk, .string o.tx, .int .i64 o.vk, .int .i64 o.vn, .float .f64 o.vf, .string o.vs, .string o.ky, .int .u64 o.pc, .int .u64 o.pk, .int .u64 o.fc, .int .u64 o.fk, .bool o.fa, .int .u64 o.tc, .int .u64 o.tk, .bool o.ta]] w1 fun e w2 => e = .returned (.bool bb) ∧ StX v1 w2 g b (i + 1) X ob) := st_set HSV.out (by omega) o HX.out.1.o ⟨⟨HX.out.1.o.vk.1, HX.out.1.o.vk.2, HX.out.1.o.vn.1, HX.out.1.o.vn.2, HX.out.1.o.vf, HX.out.1.sl.1⟩, (by have := HX.out.2.vs; simp only at this; omega), (by have := HX.out.2.ky; simp only at this; omega)⟩
      have HU : Hid (U64 o.c ∧ U64 o.k ∧ U64 o.pc ∧ U64 o.pk) := ⟨HX.out.1.o.uc, HX.out.1.o.uk, HX.out.1.o.upc, HX.out.1.o.upk⟩
      clear HX HS1
      refine wp_region_held_drew (S := fun V => V.rangeAt X 1 [.int .u64 o.c, .int .u64 o.k, .int .i64 o.kind, .int .u64 o.st, .int .u64 o.lc, .int .u64 o.lk, .int .u64 o.rc, .int .u64 o.rk, .string o.tx, .int .i64 o.vk, .int .i64 o.vn, .float .f64 o.vf, .string o.vs, .string o.ky, .int .u64 o.pc, .int .u64 o.pk, .int .u64 o.fc, .int .u64 o.fk, .bool o.fa, .int .u64 o.tc, .int .u64 o.tk, .bool o.ta] ∧ V.rangeAt X 1 [.int .u64 o.c, .int .u64 o.k] ∧ V.rangeAt X 15 [.int .u64 o.pc, .int .u64 o.pk]) (by kernel_rfl) (by rw [← hV.out]; exact HS.out _ HSV.out.block) (fun hHeld => ?_)
      rw [← hV.out] at hHeld ⊢
      clear hV
      refine wpAnyH_take (i := 0) (oi := { dst := some 38, op := Op.move (Operand.tmp 3), type := 25, pos := "law.go:93", after := #[], guard := none }) (v := .pointer (some ⟨g, 0, none⟩)) rfl (by kernel_rfl) (by kernel_rfl) (by kernel_rfl) (fun _ _ _ h => h) (Or.inl ⟨by kernel_rfl, ?_⟩) hHeld ?_
      · intro V1 hV1; clear hV1; first | (go_simp; done) | (go_simp; simp)
      simp only [Act.put, List.setIfInBounds_toArray, List.set_cons_succ, List.set_cons_zero]
      refine wpAnyH_take (i := 1) (oi := { dst := some 39, op := Op.fieldAddr 44 (Operand.tmp 6) 1, type := 0, pos := "law.go:93", after := #[], guard := none }) (v := .pointer (some ⟨X, 1, none⟩)) rfl (by kernel_rfl) (by kernel_rfl) (by kernel_rfl) (fun _ _ _ h => h) (Or.inl ⟨by kernel_rfl, ?_⟩) hHeld ?_
      · intro V1 hV1; clear hV1; first | (go_simp; done) | (go_simp; simp)
      simp only [Act.put, List.setIfInBounds_toArray, List.set_cons_succ, List.set_cons_zero]
      refine wpAnyH_take (i := 2) (oi := { dst := some 40, op := Op.load 41 (Operand.tmp 39), type := 41, pos := "law.go:93", after := #[{ on := 1, ground := Ground.data }], guard := none }) (v := .agg (List.toArray [.int .u64 o.c, .int .u64 o.k, .int .i64 o.kind, .int .u64 o.st, .int .u64 o.lc, .int .u64 o.lk, .int .u64 o.rc, .int .u64 o.rk, .string o.tx, .int .i64 o.vk, .int .i64 o.vn, .float .f64 o.vf, .string o.vs, .string o.ky, .int .u64 o.pc, .int .u64 o.pk, .int .u64 o.fc, .int .u64 o.fk, .bool o.fa, .int .u64 o.tc, .int .u64 o.tk, .bool o.ta])) rfl (by kernel_rfl) (by kernel_rfl) (by kernel_rfl) (fun _ _ _ h => h) (yieldsIf_load_mid (by kernel_rfl) 41 (.tmp 39) rfl X 1 rfl [.int .u64 o.c, .int .u64 o.k, .int .i64 o.kind, .int .u64 o.st, .int .u64 o.lc, .int .u64 o.lk, .int .u64 o.rc, .int .u64 o.rk, .string o.tx, .int .i64 o.vk, .int .i64 o.vn, .float .f64 o.vf, .string o.vs, .string o.ky, .int .u64 o.pc, .int .u64 o.pk, .int .u64 o.fc, .int .u64 o.fk, .bool o.fa, .int .u64 o.tc, .int .u64 o.tk, .bool o.ta] _ (fun w hw => hw.1) Tryz.underlying41 rfl (by kernel_rfl)) hHeld ?_
      simp only [Act.put, List.setIfInBounds_toArray, List.set_cons_succ, List.set_cons_zero]
      refine wpAnyH_take (i := 4) (oi := { dst := some 42, op := Op.move (Operand.tmp 4), type := 27, pos := "law.go:93", after := #[], guard := none }) (v := .pointer (some ⟨b, 0, none⟩)) rfl (by kernel_rfl) (by kernel_rfl) (by kernel_rfl) (fun _ _ _ h => h) (Or.inl ⟨by kernel_rfl, ?_⟩) hHeld ?_
      · intro V1 hV1; clear hV1; first | (go_simp; done) | (go_simp; simp)
      simp only [Act.put, List.setIfInBounds_toArray, List.set_cons_succ, List.set_cons_zero]
      refine wpAnyH_take (i := 5) (oi := { dst := some 43, op := Op.fieldAddr 44 (Operand.tmp 6) 1, type := 0, pos := "law.go:93", after := #[], guard := none }) (v := .pointer (some ⟨X, 1, none⟩)) rfl (by kernel_rfl) (by kernel_rfl) (by kernel_rfl) (fun _ _ _ h => h) (Or.inl ⟨by kernel_rfl, ?_⟩) hHeld ?_
      · intro V1 hV1; clear hV1; first | (go_simp; done) | (go_simp; simp)
      simp only [Act.put, List.setIfInBounds_toArray, List.set_cons_succ, List.set_cons_zero]
      refine wpAnyH_take (i := 6) (oi := { dst := some 44, op := Op.load 41 (Operand.tmp 43), type := 41, pos := "law.go:93", after := #[{ on := 5, ground := Ground.data }], guard := none }) (v := .agg (List.toArray [.int .u64 o.c, .int .u64 o.k, .int .i64 o.kind, .int .u64 o.st, .int .u64 o.lc, .int .u64 o.lk, .int .u64 o.rc, .int .u64 o.rk, .string o.tx, .int .i64 o.vk, .int .i64 o.vn, .float .f64 o.vf, .string o.vs, .string o.ky, .int .u64 o.pc, .int .u64 o.pk, .int .u64 o.fc, .int .u64 o.fk, .bool o.fa, .int .u64 o.tc, .int .u64 o.tk, .bool o.ta])) rfl (by kernel_rfl) (by kernel_rfl) (by kernel_rfl) (fun _ _ _ h => h) (yieldsIf_load_mid (by kernel_rfl) 41 (.tmp 43) rfl X 1 rfl [.int .u64 o.c, .int .u64 o.k, .int .i64 o.kind, .int .u64 o.st, .int .u64 o.lc, .int .u64 o.lk, .int .u64 o.rc, .int .u64 o.rk, .string o.tx, .int .i64 o.vk, .int .i64 o.vn, .float .f64 o.vf, .string o.vs, .string o.ky, .int .u64 o.pc, .int .u64 o.pk, .int .u64 o.fc, .int .u64 o.fk, .bool o.fa, .int .u64 o.tc, .int .u64 o.tk, .bool o.ta] _ (fun w hw => hw.1) Tryz.underlying41 rfl (by kernel_rfl)) hHeld ?_
      simp only [Act.put, List.setIfInBounds_toArray, List.set_cons_succ, List.set_cons_zero]
      refine wpAnyH_ready (rs := [3]) (by kernel_rfl) (by simp) ?_
      refine AllReadyH.cons (o := { dst := some 41, op := Op.call { callee := Callee.value (Operand.func 15), args := #[Operand.tmp 38, Operand.tmp 40], argTypes := #[25, 41] }, type := 4, pos := "law.go:93", after := #[{ on := 0, ground := Ground.data }, { on := 2, ground := Ground.data }], guard := none }) rfl (fun K hK => ?_) AllReadyH.nil
      try rw [if_pos (by kernel_rfl)]
      go_simp
      refine HSet.out.mono ?_
      rintro e w4 ⟨bb, rfl, hx4, hr4⟩
      have HR4 : Hid (Calls Tryz.prog 17 #[.pointer (some ⟨b, 0, none⟩), .agg #[.int .u64 o.c, .int .u64 o.k, .int .i64 o.kind, .int .u64 o.st, .int .u64 o.lc, .int .u64 o.lk, .int .u64 o.rc, .int .u64 o.rk, .string o.tx, .int .i64 o.vk, .int .i64 o.vn, .float .f64 o.vf, .string o.vs, .string o.ky, .int .u64 o.pc, .int .u64 o.pk, .int .u64 o.fc, .int .u64 o.fk, .bool o.fa, .int .u64 o.tc, .int .u64 o.tk, .bool o.ta]] w4 fun e w2 => e = .returned (.bool bb) ∧ StX v1 w2 g b (i + 1) X ob) := hr4
      refine hK.out _ _ (HS.out _ hx4) (fun hHeld => ?_)
      clear hK K hr4 hx4 HSet HSV
      try simp only [Act.put, List.setIfInBounds_toArray, List.set_cons_succ, List.set_cons_zero]
      refine wpAnyH_ready (rs := [7]) (by kernel_rfl) (by simp) ?_
      refine AllReadyH.cons (o := { dst := some 45, op := Op.call { callee := Callee.value (Operand.func 17), args := #[Operand.tmp 42, Operand.tmp 44], argTypes := #[27, 41] }, type := 4, pos := "law.go:93", after := #[{ on := 4, ground := Ground.data }, { on := 6, ground := Ground.data }, { on := 3, ground := Ground.chain }], guard := none }) rfl (fun K hK => ?_) AllReadyH.nil
      try rw [if_pos (by kernel_rfl)]
      go_simp
      refine HR4.out.mono ?_
      rintro e w5 ⟨rfl, hs5⟩
      have HS5 : Hid (StX v1 w5 g b (i + 1) X ob) := hs5
      refine hK.out _ _ (HS.out _ HS5.out.block) (fun hHeld => ?_)
      clear hK K hs5 HR4
      try simp only [Act.put, List.setIfInBounds_toArray, List.set_cons_succ, List.set_cons_zero]
      obtain ⟨b2, hm2, hr2⟩ := st_is HS5.out.st HU.out.1 HU.out.2.1
      obtain ⟨b3, hm3, hr3⟩ := st_is HS5.out.st HU.out.2.2.1 HU.out.2.2.2
      have HM2 : Hid (∀ W, Touch (fun _ => False) w5 W → Calls Tryz.prog 18 #[.pointer (some ⟨g, 0, none⟩), .agg #[.int .u64 o.c, .int .u64 o.k]] W fun e w' => e = .returned (.bool b2) ∧ Touch (fun _ => False) W w') := hm2
      have HR2 : Hid (∀ W, Touch (fun _ => False) w5 W → Calls Tryz.prog 19 #[.pointer (some ⟨b, 0, none⟩), .agg #[.int .u64 o.c, .int .u64 o.k]] W fun e w' => e = .returned (.bool b2) ∧ Touch (fun _ => False) W w') := hr2
      have HM3 : Hid (∀ W, Touch (fun _ => False) w5 W → Calls Tryz.prog 18 #[.pointer (some ⟨g, 0, none⟩), .agg #[.int .u64 o.pc, .int .u64 o.pk]] W fun e w' => e = .returned (.bool b3) ∧ Touch (fun _ => False) W w') := hm3
      have HR3 : Hid (∀ W, Touch (fun _ => False) w5 W → Calls Tryz.prog 19 #[.pointer (some ⟨b, 0, none⟩), .agg #[.int .u64 o.pc, .int .u64 o.pk]] W fun e w' => e = .returned (.bool b3) ∧ Touch (fun _ => False) W w') := hr3
      clear hm2 hr2 hm3 hr3 HU
      refine wpAnyH_take (i := 8) (oi := { dst := some 46, op := Op.binOp BinOp.neq 4 (Operand.tmp 41) (Operand.tmp 45) 4, type := 4, pos := "law.go:93", after := #[{ on := 3, ground := Ground.data }, { on := 7, ground := Ground.data }], guard := none }) (v := .bool false) rfl (by kernel_rfl) (by kernel_rfl) (by kernel_rfl) (fun _ _ _ h => h) (Or.inl ⟨by kernel_rfl, ?_⟩) hHeld ?_
      · intro V1 hV1; clear hV1; first | (go_simp; done) | (go_simp; simp)
      simp only [Act.put, List.setIfInBounds_toArray, List.set_cons_succ, List.set_cons_zero]
      refine wpAnyH_take (i := 9) (oi := { dst := some 47, op := Op.move (Operand.tmp 46), type := 4, pos := "law.go:93", after := #[{ on := 8, ground := Ground.data }, { on := 7, ground := Ground.chain }], guard := none }) (v := .bool false) rfl (by kernel_rfl) (by kernel_rfl) (by kernel_rfl) (fun _ _ _ h => h) (Or.inl ⟨by kernel_rfl, ?_⟩) hHeld ?_
      · intro V1 hV1; clear hV1; first | (go_simp; done) | (go_simp; simp)
      simp only [Act.put, List.setIfInBounds_toArray, List.set_cons_succ, List.set_cons_zero]
      refine wpAnyH_take (i := 10) (oi := { dst := some 48, op := Op.move (Operand.tmp 3), type := 25, pos := "law.go:93", after := #[{ on := 9, ground := Ground.guard }], guard := some (9, false) }) (v := .pointer (some ⟨g, 0, none⟩)) rfl (by kernel_rfl) (by kernel_rfl) (by kernel_rfl) (fun _ _ _ h => h) (Or.inl ⟨by kernel_rfl, ?_⟩) hHeld ?_
      · intro V1 hV1; clear hV1; first | (go_simp; done) | (go_simp; simp)
      simp only [Act.put, List.setIfInBounds_toArray, List.set_cons_succ, List.set_cons_zero]
      refine wpAnyH_take (i := 11) (oi := { dst := some 49, op := Op.fieldAddr 44 (Operand.tmp 6) 1, type := 0, pos := "law.go:93", after := #[{ on := 9, ground := Ground.guard }], guard := some (9, false) }) (v := .pointer (some ⟨X, 1, none⟩)) rfl (by kernel_rfl) (by kernel_rfl) (by kernel_rfl) (fun _ _ _ h => h) (Or.inl ⟨by kernel_rfl, ?_⟩) hHeld ?_
      · intro V1 hV1; clear hV1; first | (go_simp; done) | (go_simp; simp)
      simp only [Act.put, List.setIfInBounds_toArray, List.set_cons_succ, List.set_cons_zero]
      refine wpAnyH_take (i := 12) (oi := { dst := some 50, op := Op.fieldAddr 41 (Operand.tmp 49) 0, type := 0, pos := "law.go:93", after := #[{ on := 11, ground := Ground.data }, { on := 9, ground := Ground.guard }], guard := some (9, false) }) (v := .pointer (some ⟨X, 1, none⟩)) rfl (by kernel_rfl) (by kernel_rfl) (by kernel_rfl) (fun _ _ _ h => h) (Or.inl ⟨by kernel_rfl, ?_⟩) hHeld ?_
      · intro V1 hV1; clear hV1; first | (go_simp; done) | (go_simp; simp)
      simp only [Act.put, List.setIfInBounds_toArray, List.set_cons_succ, List.set_cons_zero]
      refine wpAnyH_take (i := 13) (oi := { dst := some 51, op := Op.load 34 (Operand.tmp 50), type := 34, pos := "law.go:93", after := #[{ on := 12, ground := Ground.data }, { on := 9, ground := Ground.guard }], guard := some (9, false) }) (v := .agg (List.toArray [.int .u64 o.c, .int .u64 o.k])) rfl (by kernel_rfl) (by kernel_rfl) (by kernel_rfl) (fun _ _ _ h => h) (yieldsIf_load_mid (by kernel_rfl) 34 (.tmp 50) rfl X 1 rfl [.int .u64 o.c, .int .u64 o.k] _ (fun w hw => hw.2.1) Tryz.underlying34 rfl (by kernel_rfl)) hHeld ?_
      simp only [Act.put, List.setIfInBounds_toArray, List.set_cons_succ, List.set_cons_zero]
      refine wpAnyH_take (i := 15) (oi := { dst := some 53, op := Op.move (Operand.tmp 4), type := 27, pos := "law.go:93", after := #[{ on := 9, ground := Ground.guard }], guard := some (9, false) }) (v := .pointer (some ⟨b, 0, none⟩)) rfl (by kernel_rfl) (by kernel_rfl) (by kernel_rfl) (fun _ _ _ h => h) (Or.inl ⟨by kernel_rfl, ?_⟩) hHeld ?_
      · intro V1 hV1; clear hV1; first | (go_simp; done) | (go_simp; simp)
      simp only [Act.put, List.setIfInBounds_toArray, List.set_cons_succ, List.set_cons_zero]
      refine wpAnyH_take (i := 16) (oi := { dst := some 54, op := Op.fieldAddr 44 (Operand.tmp 6) 1, type := 0, pos := "law.go:93", after := #[{ on := 9, ground := Ground.guard }], guard := some (9, false) }) (v := .pointer (some ⟨X, 1, none⟩)) rfl (by kernel_rfl) (by kernel_rfl) (by kernel_rfl) (fun _ _ _ h => h) (Or.inl ⟨by kernel_rfl, ?_⟩) hHeld ?_
      · intro V1 hV1; clear hV1; first | (go_simp; done) | (go_simp; simp)
      simp only [Act.put, List.setIfInBounds_toArray, List.set_cons_succ, List.set_cons_zero]
      refine wpAnyH_take (i := 17) (oi := { dst := some 55, op := Op.fieldAddr 41 (Operand.tmp 54) 0, type := 0, pos := "law.go:93", after := #[{ on := 16, ground := Ground.data }, { on := 9, ground := Ground.guard }], guard := some (9, false) }) (v := .pointer (some ⟨X, 1, none⟩)) rfl (by kernel_rfl) (by kernel_rfl) (by kernel_rfl) (fun _ _ _ h => h) (Or.inl ⟨by kernel_rfl, ?_⟩) hHeld ?_
      · intro V1 hV1; clear hV1; first | (go_simp; done) | (go_simp; simp)
      simp only [Act.put, List.setIfInBounds_toArray, List.set_cons_succ, List.set_cons_zero]
      refine wpAnyH_take (i := 18) (oi := { dst := some 56, op := Op.load 34 (Operand.tmp 55), type := 34, pos := "law.go:93", after := #[{ on := 17, ground := Ground.data }, { on := 9, ground := Ground.guard }], guard := some (9, false) }) (v := .agg (List.toArray [.int .u64 o.c, .int .u64 o.k])) rfl (by kernel_rfl) (by kernel_rfl) (by kernel_rfl) (fun _ _ _ h => h) (yieldsIf_load_mid (by kernel_rfl) 34 (.tmp 55) rfl X 1 rfl [.int .u64 o.c, .int .u64 o.k] _ (fun w hw => hw.2.1) Tryz.underlying34 rfl (by kernel_rfl)) hHeld ?_
      simp only [Act.put, List.setIfInBounds_toArray, List.set_cons_succ, List.set_cons_zero]
      refine wpAnyH_ready (rs := [14]) (by kernel_rfl) (by simp) ?_
      refine AllReadyH.cons (o := { dst := some 52, op := Op.call { callee := Callee.value (Operand.func 18), args := #[Operand.tmp 48, Operand.tmp 51], argTypes := #[25, 34] }, type := 4, pos := "law.go:93", after := #[{ on := 10, ground := Ground.data }, { on := 13, ground := Ground.data }, { on := 9, ground := Ground.chain }, { on := 9, ground := Ground.guard }], guard := some (9, false) }) rfl (fun K hK => ?_) AllReadyH.nil
      try rw [if_pos (by kernel_rfl)]
      go_simp
      refine (HM2.out w5 (Touch.refl _ _)).mono ?_
      rintro e w6 ⟨rfl, tt6⟩
      have HT6 : Hid (Touch (fun _ => False) w5 w6) := tt6
      refine hK.out _ _ (HS.out _ (HS5.out.on HT6.out).block) (fun hHeld => ?_)
      clear hK K tt6
      try simp only [Act.put, List.setIfInBounds_toArray, List.set_cons_succ, List.set_cons_zero]
      refine wpAnyH_ready (rs := [19]) (by kernel_rfl) (by simp) ?_
      refine AllReadyH.cons (o := { dst := some 57, op := Op.call { callee := Callee.value (Operand.func 19), args := #[Operand.tmp 53, Operand.tmp 56], argTypes := #[27, 34] }, type := 4, pos := "law.go:93", after := #[{ on := 15, ground := Ground.data }, { on := 18, ground := Ground.data }, { on := 14, ground := Ground.chain }, { on := 9, ground := Ground.guard }], guard := some (9, false) }) rfl (fun K hK => ?_) AllReadyH.nil
      try rw [if_pos (by kernel_rfl)]
      go_simp
      refine (HR2.out w6 HT6.out).mono ?_
      rintro e w7 ⟨rfl, tt7⟩
      have HT7 : Hid (Touch (fun _ => False) w5 w7) := (HT6.out).trans tt7
      refine hK.out _ _ (HS.out _ (HS5.out.on HT7.out).block) (fun hHeld => ?_)
      clear hK K tt7
      try simp only [Act.put, List.setIfInBounds_toArray, List.set_cons_succ, List.set_cons_zero]
      refine wpAnyH_take (i := 20) (oi := { dst := some 58, op := Op.binOp BinOp.neq 4 (Operand.tmp 52) (Operand.tmp 57) 4, type := 4, pos := "law.go:93", after := #[{ on := 14, ground := Ground.data }, { on := 19, ground := Ground.data }, { on := 9, ground := Ground.guard }], guard := some (9, false) }) (v := .bool false) rfl (by kernel_rfl) (by kernel_rfl) (by kernel_rfl) (fun _ _ _ h => h) (Or.inl ⟨by kernel_rfl, ?_⟩) hHeld ?_
      · intro V1 hV1; clear hV1; first | (go_simp; done) | (go_simp; simp)
      simp only [Act.put, List.setIfInBounds_toArray, List.set_cons_succ, List.set_cons_zero]
      refine wpAnyH_take (i := 21) (oi := { dst := some 59, op := Op.pick (Operand.tmp 47) (Operand.const (Value.bool true)) (Operand.tmp 58), type := 4, pos := "law.go:93", after := #[{ on := 9, ground := Ground.data }, { on := 20, ground := Ground.data }], guard := none }) (v := .bool false) rfl (by kernel_rfl) (by kernel_rfl) (by kernel_rfl) (fun _ _ _ h => h) (Or.inl ⟨by kernel_rfl, ?_⟩) hHeld ?_
      · intro V1 hV1; clear hV1; first | (go_simp; done) | (go_simp; simp)
      simp only [Act.put, List.setIfInBounds_toArray, List.set_cons_succ, List.set_cons_zero]
      refine wpAnyH_take (i := 22) (oi := { dst := some 60, op := Op.move (Operand.tmp 59), type := 4, pos := "law.go:93", after := #[{ on := 21, ground := Ground.data }, { on := 19, ground := Ground.chain }], guard := none }) (v := .bool false) rfl (by kernel_rfl) (by kernel_rfl) (by kernel_rfl) (fun _ _ _ h => h) (Or.inl ⟨by kernel_rfl, ?_⟩) hHeld ?_
      · intro V1 hV1; clear hV1; first | (go_simp; done) | (go_simp; simp)
      simp only [Act.put, List.setIfInBounds_toArray, List.set_cons_succ, List.set_cons_zero]
      refine wpAnyH_take (i := 23) (oi := { dst := some 61, op := Op.move (Operand.tmp 3), type := 25, pos := "law.go:93", after := #[{ on := 22, ground := Ground.guard }], guard := some (22, false) }) (v := .pointer (some ⟨g, 0, none⟩)) rfl (by kernel_rfl) (by kernel_rfl) (by kernel_rfl) (fun _ _ _ h => h) (Or.inl ⟨by kernel_rfl, ?_⟩) hHeld ?_
      · intro V1 hV1; clear hV1; first | (go_simp; done) | (go_simp; simp)
      simp only [Act.put, List.setIfInBounds_toArray, List.set_cons_succ, List.set_cons_zero]
      refine wpAnyH_take (i := 24) (oi := { dst := some 62, op := Op.fieldAddr 44 (Operand.tmp 6) 1, type := 0, pos := "law.go:93", after := #[{ on := 22, ground := Ground.guard }], guard := some (22, false) }) (v := .pointer (some ⟨X, 1, none⟩)) rfl (by kernel_rfl) (by kernel_rfl) (by kernel_rfl) (fun _ _ _ h => h) (Or.inl ⟨by kernel_rfl, ?_⟩) hHeld ?_
      · intro V1 hV1; clear hV1; first | (go_simp; done) | (go_simp; simp)
      simp only [Act.put, List.setIfInBounds_toArray, List.set_cons_succ, List.set_cons_zero]
      refine wpAnyH_take (i := 25) (oi := { dst := some 63, op := Op.fieldAddr 41 (Operand.tmp 62) 8, type := 0, pos := "law.go:93", after := #[{ on := 24, ground := Ground.data }, { on := 22, ground := Ground.guard }], guard := some (22, false) }) (v := .pointer (some ⟨X, 15, none⟩)) rfl (by kernel_rfl) (by kernel_rfl) (by kernel_rfl) (fun _ _ _ h => h) (Or.inl ⟨by kernel_rfl, ?_⟩) hHeld ?_
      · intro V1 hV1; clear hV1; first | (go_simp; done) | (go_simp; simp)
      simp only [Act.put, List.setIfInBounds_toArray, List.set_cons_succ, List.set_cons_zero]
      refine wpAnyH_take (i := 26) (oi := { dst := some 64, op := Op.load 34 (Operand.tmp 63), type := 34, pos := "law.go:93", after := #[{ on := 25, ground := Ground.data }, { on := 22, ground := Ground.guard }], guard := some (22, false) }) (v := .agg (List.toArray [.int .u64 o.pc, .int .u64 o.pk])) rfl (by kernel_rfl) (by kernel_rfl) (by kernel_rfl) (fun _ _ _ h => h) (yieldsIf_load_mid (by kernel_rfl) 34 (.tmp 63) rfl X 15 rfl [.int .u64 o.pc, .int .u64 o.pk] _ (fun w hw => hw.2.2) Tryz.underlying34 rfl (by kernel_rfl)) hHeld ?_
      simp only [Act.put, List.setIfInBounds_toArray, List.set_cons_succ, List.set_cons_zero]
      refine wpAnyH_take (i := 28) (oi := { dst := some 66, op := Op.move (Operand.tmp 4), type := 27, pos := "law.go:93", after := #[{ on := 22, ground := Ground.guard }], guard := some (22, false) }) (v := .pointer (some ⟨b, 0, none⟩)) rfl (by kernel_rfl) (by kernel_rfl) (by kernel_rfl) (fun _ _ _ h => h) (Or.inl ⟨by kernel_rfl, ?_⟩) hHeld ?_
      · intro V1 hV1; clear hV1; first | (go_simp; done) | (go_simp; simp)
      simp only [Act.put, List.setIfInBounds_toArray, List.set_cons_succ, List.set_cons_zero]
      refine wpAnyH_take (i := 29) (oi := { dst := some 67, op := Op.fieldAddr 44 (Operand.tmp 6) 1, type := 0, pos := "law.go:93", after := #[{ on := 22, ground := Ground.guard }], guard := some (22, false) }) (v := .pointer (some ⟨X, 1, none⟩)) rfl (by kernel_rfl) (by kernel_rfl) (by kernel_rfl) (fun _ _ _ h => h) (Or.inl ⟨by kernel_rfl, ?_⟩) hHeld ?_
      · intro V1 hV1; clear hV1; first | (go_simp; done) | (go_simp; simp)
      simp only [Act.put, List.setIfInBounds_toArray, List.set_cons_succ, List.set_cons_zero]
      refine wpAnyH_take (i := 30) (oi := { dst := some 68, op := Op.fieldAddr 41 (Operand.tmp 67) 8, type := 0, pos := "law.go:93", after := #[{ on := 29, ground := Ground.data }, { on := 22, ground := Ground.guard }], guard := some (22, false) }) (v := .pointer (some ⟨X, 15, none⟩)) rfl (by kernel_rfl) (by kernel_rfl) (by kernel_rfl) (fun _ _ _ h => h) (Or.inl ⟨by kernel_rfl, ?_⟩) hHeld ?_
      · intro V1 hV1; clear hV1; first | (go_simp; done) | (go_simp; simp)
      simp only [Act.put, List.setIfInBounds_toArray, List.set_cons_succ, List.set_cons_zero]
      refine wpAnyH_take (i := 31) (oi := { dst := some 69, op := Op.load 34 (Operand.tmp 68), type := 34, pos := "law.go:93", after := #[{ on := 30, ground := Ground.data }, { on := 22, ground := Ground.guard }], guard := some (22, false) }) (v := .agg (List.toArray [.int .u64 o.pc, .int .u64 o.pk])) rfl (by kernel_rfl) (by kernel_rfl) (by kernel_rfl) (fun _ _ _ h => h) (yieldsIf_load_mid (by kernel_rfl) 34 (.tmp 68) rfl X 15 rfl [.int .u64 o.pc, .int .u64 o.pk] _ (fun w hw => hw.2.2) Tryz.underlying34 rfl (by kernel_rfl)) hHeld ?_
      simp only [Act.put, List.setIfInBounds_toArray, List.set_cons_succ, List.set_cons_zero]
      refine wpAnyH_ready (rs := [27]) (by kernel_rfl) (by simp) ?_
      refine AllReadyH.cons (o := { dst := some 65, op := Op.call { callee := Callee.value (Operand.func 18), args := #[Operand.tmp 61, Operand.tmp 64], argTypes := #[25, 34] }, type := 4, pos := "law.go:93", after := #[{ on := 23, ground := Ground.data }, { on := 26, ground := Ground.data }, { on := 22, ground := Ground.chain }, { on := 22, ground := Ground.guard }], guard := some (22, false) }) rfl (fun K hK => ?_) AllReadyH.nil
      try rw [if_pos (by kernel_rfl)]
      go_simp
      refine (HM3.out w7 HT7.out).mono ?_
      rintro e w8 ⟨rfl, tt8⟩
      have HT8 : Hid (Touch (fun _ => False) w5 w8) := (HT7.out).trans tt8
      refine hK.out _ _ (HS.out _ (HS5.out.on HT8.out).block) (fun hHeld => ?_)
      clear hK K tt8
      try simp only [Act.put, List.setIfInBounds_toArray, List.set_cons_succ, List.set_cons_zero]
      refine wpAnyH_ready (rs := [32]) (by kernel_rfl) (by simp) ?_
      refine AllReadyH.cons (o := { dst := some 70, op := Op.call { callee := Callee.value (Operand.func 19), args := #[Operand.tmp 66, Operand.tmp 69], argTypes := #[27, 34] }, type := 4, pos := "law.go:93", after := #[{ on := 28, ground := Ground.data }, { on := 31, ground := Ground.data }, { on := 27, ground := Ground.chain }, { on := 22, ground := Ground.guard }], guard := some (22, false) }) rfl (fun K hK => ?_) AllReadyH.nil
      try rw [if_pos (by kernel_rfl)]
      go_simp
      refine (HR3.out w8 HT8.out).mono ?_
      rintro e w9 ⟨rfl, tt9⟩
      have HT9 : Hid (Touch (fun _ => False) w5 w9) := (HT8.out).trans tt9
      refine hK.out _ _ (HS.out _ (HS5.out.on HT9.out).block) (fun hHeld => ?_)
      clear hK K tt9
      try simp only [Act.put, List.setIfInBounds_toArray, List.set_cons_succ, List.set_cons_zero]
      refine wpAnyH_take (i := 33) (oi := { dst := some 71, op := Op.binOp BinOp.neq 4 (Operand.tmp 65) (Operand.tmp 70) 4, type := 4, pos := "law.go:93", after := #[{ on := 27, ground := Ground.data }, { on := 32, ground := Ground.data }, { on := 22, ground := Ground.guard }], guard := some (22, false) }) (v := .bool false) rfl (by kernel_rfl) (by kernel_rfl) (by kernel_rfl) (fun _ _ _ h => h) (Or.inl ⟨by kernel_rfl, ?_⟩) hHeld ?_
      · intro V1 hV1; clear hV1; first | (go_simp; done) | (go_simp; simp)
      simp only [Act.put, List.setIfInBounds_toArray, List.set_cons_succ, List.set_cons_zero]
      refine wpAnyH_take (i := 34) (oi := { dst := some 72, op := Op.pick (Operand.tmp 60) (Operand.const (Value.bool true)) (Operand.tmp 71), type := 4, pos := "law.go:93", after := #[{ on := 22, ground := Ground.data }, { on := 33, ground := Ground.data }], guard := none }) (v := .bool false) rfl (by kernel_rfl) (by kernel_rfl) (by kernel_rfl) (fun _ _ _ h => h) (Or.inl ⟨by kernel_rfl, ?_⟩) hHeld ?_
      · intro V1 hV1; clear hV1; first | (go_simp; done) | (go_simp; simp)
      simp only [Act.put, List.setIfInBounds_toArray, List.set_cons_succ, List.set_cons_zero]
      refine wpAnyH_done (by kernel_rfl) ?_ _
      try simp only [List.getElem_toArray, List.getElem_cons_succ, List.getElem_cons_zero, List.setIfInBounds_toArray, List.set_cons_succ, List.set_cons_zero]
      have HS9 : Hid (St v1 w9 g b (i + 1)) := (HS5.out.on HT9.out).st
      clear hHeld HS HS5 HM2 HR2 HM3 HR3 HT6 HT7 HT8 HT9
      obtain ⟨T, hVm, hVr⟩ := st_text HS9.out hi60
      have HVm : Hid (∀ W, Touch (fun _ => False) w9 W → Calls Tryz.prog 21 #[.pointer (some ⟨g, 0, none⟩)] W fun e w' => ∃ v, e = .returned v ∧ Touch (fun _ => False) W w' ∧ Calls Tryz.prog 20 #[v] w' fun e w'' => e = .returned (.string T) ∧ Touch (fun _ => False) w' w'') := hVm
      have HVr : Hid (∀ W, Touch (fun _ => False) w9 W → Calls Tryz.prog 22 #[.pointer (some ⟨b, 0, none⟩)] W fun e w' => ∃ v, e = .returned v ∧ Touch (fun _ => False) W w' ∧ Calls Tryz.prog 20 #[v] w' fun e w'' => e = .returned (.string T) ∧ Touch (fun _ => False) w' w'') := hVr
      clear hVm hVr
      go_upto_region 36 with fail
      refine wp_region_lit ?_
      iterate 1 (refine wpList_plain rfl fun K hK => ?_; go_simp; refine hK _ _ ?_; clear hK K)
      refine wpList_plain rfl fun K hK => ?_
      go_simp
      refine (HVm.out w9 (Touch.refl _ _)).mono ?_
      rintro e W5 ⟨v5, rfl, t5, htx5⟩
      refine hK _ _ ?_
      clear hK K
      have HX5 : Hid (Calls Tryz.prog 20 #[v5] W5 fun e w'' => e = .returned (.string T) ∧ Touch (fun _ => False) W5 w'') := htx5
      have HT5 : Hid (Touch (fun _ => False) w9 W5) := t5
      clear htx5 t5 HVm
      refine wpList_plain rfl fun K hK => ?_
      go_simp
      refine HX5.out.mono ?_
      rintro e W6 ⟨rfl, t6⟩
      refine hK _ _ ?_
      clear hK K
      have HT6 : Hid (Touch (fun _ => False) w9 W6) := HT5.out.trans t6
      clear t6 HX5 HT5
      iterate 1 (refine wpList_plain rfl fun K hK => ?_; go_simp; refine hK _ _ ?_; clear hK K)
      refine wpList_plain rfl fun K hK => ?_
      go_simp
      refine (HVr.out W6 HT6.out).mono ?_
      rintro e W7 ⟨v7, rfl, t7, htx7⟩
      refine hK _ _ ?_
      clear hK K
      have HX7 : Hid (Calls Tryz.prog 20 #[v7] W7 fun e w'' => e = .returned (.string T) ∧ Touch (fun _ => False) W7 w'') := htx7
      have HT7 : Hid (Touch (fun _ => False) w9 W7) := HT6.out.trans t7
      clear htx7 t7 HVr HT6
      refine wpList_plain rfl fun K hK => ?_
      go_simp
      refine HX7.out.mono ?_
      rintro e W8 ⟨rfl, t8⟩
      refine hK _ _ ?_
      clear hK K
      have HT8 : Hid (Touch (fun _ => False) w9 W8) := HT7.out.trans t8
      clear t8 HX7 HT7
      iterate 1 (refine wpList_plain rfl fun K hK => ?_; go_simp; refine hK _ _ ?_; clear hK K)
      have wi : IntKind.i64.wrap ((i : Int) + 1) = ((i + 1 : Nat) : Int) := by rw [IntKind.wrap_i64] <;> omega
      have HS10 : Hid (St v1 W8 g b (i + 1)) := HS9.out.on HT8.out
      clear HT8 HS9
      go_wp2_with fail
      go_roundg (n - (i + 1))
      case measure => have := Hig.out; omega
      case rel => exact ⟨i + 1, g, b, by omega, rfl, rfl, rfl, HS10⟩
    · have l1 : ¬ (i : Int) < (n : Int) := by omega
      have HF : Hid (Touch (fun _ => False) w wr) := HTv.out.trans HR.out.touch0
      clear HR
      go_wp2_with fail
      go_ret
      exact ⟨rfl, HF.out⟩
end Go.Proofs.YtodpdcflbnomgaaGreat
