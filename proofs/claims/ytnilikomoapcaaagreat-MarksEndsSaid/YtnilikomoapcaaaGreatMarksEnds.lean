/- quirelaw11.MarksEnds: a mark from the beginning to the end is over all that comes. -/
import Derived.Test.YtnilikomoapcaaaGreatOwn1
import Derived.Test.YtnilikomoapcaaaGreatMarksGrow
import Derived.Deep.CutBlock
import Derived.Deep.DeepCutAuto
import Derived.Deep.RegionHeld3
namespace Go.Proofs.YtnilikomoapcaaaGreat
open Go.RowKit
set_option linter.unusedVariables false
set_option linter.unusedSimpArgs false
set_option maxRecDepth 100000

set_option maxHeartbeats 16000000 in
theorem marksEnds_any (w : World) (ao0 : Option Addr) (zs0 : List Int) (n0 c0 : Nat) (hn0 : n0 = zs0.length) (hz0 : LiesK w .u16 ao0 zs0) (hm0 : c0 ≤ maxLen) (hc0 : n0 ≤ c0) (hr0 : ∀ y ∈ zs0, 0 ≤ y ∧ y < 65536) (vv : Int) (hvv : -9223372036854775808 ≤ vv ∧ vv ≤ 9223372036854775807) :
    Calls Tryz.prog 4 #[.slice ao0 n0 c0, .int .i64 vv] w fun e w' => e = .returned (.bool true) ∧ Touch (fun _ => False) w w' := by
  have HK : Hid (Calls Tryz.prog 5 #[] w fun e w' => e = .returned (.bool true) ∧ Touch (fun _ => False) w w') := known_any w
  have hx0 : (n0 : Int) ≤ 9223372036854775807 := by unfold maxLen at hm0; omega
  by_cases h0 : 40 < n0
  · have g0 : (40 : Int) < (n0 : Int) := by omega
    clear h0 hz0 hr0 hm0 hc0 hn0
    go_enter Tryz.func4, Tryz.ntmps4
    go_wp2_with fail
    refine HK.out.mono ?_
    rintro e W1 ⟨rfl, t1⟩
    have HT1 : Hid (Touch (fun _ => False) w W1) := t1
    clear t1 HK
    go_wp2_with fail
    go_ret
    exact ⟨rfl, HT1.out⟩
  have g0 : ¬ (40 : Int) < (n0 : Int) := by omega
  have HNz : Hid (n0 ≤ 40) := by rw [Hid]; omega
  have HZ : Hid (∀ j, j < n0 → ∃ b o x, ao0 = some ⟨b, o, none⟩ ∧ 0 ≤ x ∧ x < 65536 ∧ ∀ W, Touch (fun _ => False) w W → W.cell? ⟨b, o + j, none⟩ = some (.int .u16 x)) := fun j hj => by
    rcases hz0 with rfl | ⟨b, o, e, hc⟩
    · simp at hn0; omega
    · rw [hn0] at hj
      have h1 := hr0 _ (List.getElem_mem hj)
      refine ⟨b, o, zs0[j], e, h1.1, h1.2, fun W t => ?_⟩
      have h2 := hc j hj
      rw [World.cell?_of_block (t.block _ (World.block_lt_of_cell? _ _ h2) id)]
      exact h2
  obtain ⟨o, ho⟩ : ∃ o, Hid (o = endO vv) := ⟨_, Eq.refl _⟩
  have HMk : Hid (∀ W, Calls Tryz.prog 10 #[.int .u64 1, .int .u64 1, .string ⟨#[107]⟩, .int .i64 vv, .agg #[.int .u64 0, .int .u64 0, .bool false], .agg #[.int .u64 0, .int .u64 0, .bool true]] W fun e w' => e = .returned o.val ∧ Touch (fun _ => False) W w') := fun W => by rw [ho.out]; exact mark_any _ _ _ _ _ _ _ _ _ _ W
  have HNw : Hid (∀ W, Touch (fun _ => False) w W → Calls Tryz.prog 7 #[] W fun e w' => ∃ p B, e = .returned (.pointer (some ⟨p, 0, none⟩)) ∧ Sq1 w w' p B .new ∧ (∀ k, B.has k → W.heap.size ≤ k) ∧ Touch (fun _ => False) W w') := fun W t => Sq1.fresh w W t
  have HFit : Hid (o.fits ∧ o.ky.size ≤ maxLen ∧ o.kind = 3) := by rw [ho.out]; exact ⟨end_fits vv hvv, by show (⟨#[107]⟩ : ByteArray).size ≤ maxLen; decide, rfl⟩
  have HOv : Hid (∀ S i, EI S (i + 1) → ∀ k, k < i + 1 → sh1 (oneS S o) k = [endK vv]) := fun S i hE k hk => by
    have e := hE.over o (by rw [ho.out]) (by rw [ho.out]) (by rw [ho.out]) (by rw [ho.out]) (by rw [ho.out]) (by rw [ho.out])
    unfold sh1 oneS
    rw [e, if_pos]
    · show [mk o] = _
      rw [ho.out, mk_end]
    · refine ⟨by rw [ho.out]; rfl, ?_, ?_⟩
      · show (0 : Int) ≤ (k : Int); omega
      · show (k : Int) < ((i + 1 : Nat) : Int); omega
  have HSm : Hid (∀ W va vb, SlY W va [endK vv] → SlY W vb [endK vv] → Calls Tryz.prog 16 #[va, vb] W fun e w' => e = .returned (.bool true) ∧ Touch (fun _ => False) W w') := fun W va vb ha hb => by
    have := qsame_any ha hb (fun m hm => by simp at hm; rw [hm]; show (0 : Nat) < _; decide) (fun m hm => by simp at hm; rw [hm]; show (0 : Nat) < _; decide)
    rw [end_same] at this
    exact this
  clear hz0 hr0 hm0 hc0 hn0 h0 hvv
  go_enter Tryz.func4, Tryz.ntmps4
  go_wp2_with fail
  refine HK.out.mono ?_
  rintro e W1 ⟨rfl, t1⟩
  have HT1 : Hid (Touch (fun _ => False) w W1) := t1
  clear t1 HK
  go_upto_region 5 with fail
  go_cut [5] (fun x wx => ∃ gm, x = .slice (some ⟨gm, 0, none⟩) 1 1 ∧ Hid (wx.heap[gm]? = some (opO o) ∧ w.heap.size ≤ gm ∧ Touch (fun _ => False) w wx))
  case first =>
    go_wp2_with fail
    refine (HMk.out _).mono ?_
    rintro e Wa ⟨rfl, ta⟩
    have Ha : Hid (Touch (fun _ => False) w Wa) := HT1.out.trans ta
    clear ta
    go_wp2_with fail
    go_meet
    case rel => exact ⟨_, rfl, heap_alloc_new _ _, Ha.out.size, Ha.out.alloc _⟩
  case rest =>
  obtain ⟨gm, rfl, H2⟩ := hcut
  obtain ⟨W2, hwf⟩ : ∃ we, we = wc := ⟨_, rfl⟩
  subst hwf
  clear HMk HT1
  go_wp2_with fail
  refine (HNw.out _ H2.out.2.2).mono ?_
  rintro e W3 ⟨pa, A, rfl, a3, -, t3⟩
  have H3 : Hid (SqMk w W3 pa gm .new o) := ⟨⟨A, a3⟩, heap_keep t3 H2.out.1, H2.out.2.1, H2.out.2.2.trans t3⟩
  clear a3 t3 HNw H2
  go_wp2_with fail
  go_loopw [7] (fun i wr => ∃ j : Nat, i = .int .i64 (j : Int) ∧ j ≤ n0 ∧ ∃ S, Hid (EI S j ∧ SqMk w wr pa gm S o)) (fun i _ => n0 - (intOf i).toNat)
  case atStart => exact ⟨0, rfl, Nat.zero_le _, .new, EI.new, H3.out⟩
  case round =>
    obtain ⟨j, hi7, hj, S, HS⟩ := hrel
    subst hi7
    by_cases hlt : j < n0
    rotate_left
    · have l0 : ¬ (j : Int) < (n0 : Int) := by omega
      have HTe : Hid (Touch (fun _ => False) w wr) := HS.out.2.2.2.2
      clear hlt hj HS H3 HOv HSm HZ
      go_wp2_with fail
      go_ret
      exact ⟨rfl, HTe.out⟩
    obtain ⟨zb, zo, zx, rfl, zx0, zx1, hzc⟩ := HZ.out j hlt
    have HZc : Hid (∀ W, Touch (fun _ => False) w W → W.cell? ⟨zb, zo + j, none⟩ = some (.int .u16 zx)) := hzc
    have hnz := HNz.out
    have l0 : (j : Int) < (n0 : Int) := by omega
    have l1 : (0 : Int) ≤ (j : Int) := by omega
    have ejw : IntKind.u64.wrap ((j : Int) + 1) = (j : Int) + 1 := by rw [IntKind.wrap_u64]; omega
    have ejm : (j : Int) + 1 < 9223372036854775808 := by omega
    have eji : IntKind.i64.wrap ((j : Int) + 1) = (j : Int) + 1 := by rw [IntKind.wrap_i64]; omega
    have ezw : IntKind.i64.wrap zx = zx := by rw [IntKind.wrap_i64]; omega
    obtain ⟨p, hp⟩ : ∃ p : Nat, (p : Int) = zx.tmod ((j : Int) + 1) := ⟨(zx.tmod ((j : Int) + 1)).toNat, by rw [Int.tmod_eq_emod_of_nonneg zx0]; have := Int.emod_nonneg zx (b := (j : Int) + 1) (by omega); omega⟩
    have HPj : Hid (p ≤ j) := by
      have h1 := Int.emod_lt_of_pos zx (b := (j : Int) + 1) (by omega)
      rw [← Int.tmod_eq_emod_of_nonneg zx0, ← hp] at h1
      rw [Hid]; omega
    have ert : zx.tmod ((j : Int) + 1) = (p : Int) := hp.symm
    have er0 : (((j : Int) + 1) == 0) = false := by simp; omega
    have er1 : ¬ ((j : Int) + 1 = 0) := by omega
    have er2 : ¬ ((j : Int) + 1 = -1) := by omega
    have HLt : Hid (j < n0) := hlt
    have HE : Hid (EI S j) := HS.out.1
    have HLn : Hid (∀ W, SqMk w W pa gm S o → Calls Tryz.prog 13 #[.pointer (some ⟨pa, 0, none⟩)] W fun e w' => e = .returned (.int .i64 (j : Int)) ∧ Touch (fun _ => False) W w') := fun W h => by
      have := h.len
      rw [HE.out.len] at this
      exact this
    obtain ⟨m, hm⟩ : ∃ m, Hid (m = wr.heap.size) := ⟨_, Eq.refl _⟩
    have HX0 : Hid (SqMk w (wr.alloc (unO ⟨3, (j : Int) + 1, 0, 0, 0, 0⟩)) pa gm S o ∧ (wr.alloc (unO ⟨3, (j : Int) + 1, 0, 0, 0, 0⟩)).heap[m]? = some (unO ⟨3, (j : Int) + 1, 0, 0, 0, 0⟩)) := ⟨HS.out.2.touch ((Touch.refl _ _).alloc _), by rw [hm.out]; exact heap_alloc_new _ _⟩
    have HMs : Hid (w.heap.size ≤ m) := by rw [hm.out]; exact HS.out.2.2.2.2.size
    clear hp hzc hlt hj HS H3 HZ hnz
    go_upto_region 11 with fail
    rw [← hm.out]
    obtain ⟨X0, hX0⟩ : ∃ X0, Hid (X0 = wr.alloc (unO ⟨3, (j : Int) + 1, 0, 0, 0, 0⟩)) := ⟨_, Eq.refl _⟩
    rw [← hX0.out] at HX0 ⊢
    clear hX0 hm
    go_cut [9] (fun t wx => t = .int .i64 (p : Int) ∧ Hid (SqMk w wx pa gm S o ∧ wx.heap[m]? = some (unO ⟨3, (j : Int) + 1, 0, 0, 0, 0⟩)))
    case first =>
      have hcz := HZc.out X0.drew HX0.out.1.2.2.2.drew
      have HXd : Hid (SqMk w X0.drew pa gm S o ∧ X0.drew.heap[m]? = some (unO ⟨3, (j : Int) + 1, 0, 0, 0, 0⟩)) := ⟨HX0.out.1.touch (Touch.refl _ _).drew, heap_keep (Touch.refl _ _).drew HX0.out.2⟩
      go_region_held3 (fun W => W.cell? ⟨zb, zo + j, none⟩ = some (.int .u16 zx) ∧ Hid (SqMk w W pa gm S o ∧ W.heap[m]? = some (unO ⟨3, (j : Int) + 1, 0, 0, 0, 0⟩))) (first | assumption | exact ⟨hcz, HXd⟩)
        (first
          | (go_at_call 13; (with_reducible refine (HLn.out _ HXd.out.1).mono ?_); rintro e w2 ⟨rfl, t2⟩; have hS2 : w2.cell? ⟨zb, zo + j, none⟩ = some (.int .u16 zx) ∧ Hid (SqMk w w2 pa gm S o ∧ w2.heap[m]? = some (unO ⟨3, (j : Int) + 1, 0, 0, 0, 0⟩)) := ⟨HZc.out _ ((HXd.out.1.touch t2).2.2.2), HXd.out.1.touch t2, heap_keep t2 HXd.out.2⟩; clear t2))
      go_wp2_with fail
      go_meet
      case rel => exact ⟨rfl, hS2.2.out⟩
    case rest =>
      obtain ⟨rfl, H8⟩ := hcut
      obtain ⟨X1, hwf⟩ : ∃ we, we = wc := ⟨_, rfl⟩
      subst hwf
      clear HLn HZc HX0 ert er0 er1 er2 ezw zx0 zx1
      obtain ⟨S', hS'⟩ : ∃ s, Hid (s = S.run (btU S 3 ((j : Int) + 1) p) 1) := ⟨_, Eq.refl _⟩
      obtain ⟨s1, s2, s3, s4⟩ := HE.out.step (p := p) (by have := HNz.out; have := HLt.out; omega) HPj.out
      rw [← hS'.out] at s3 s4
      have HE' : Hid (EI S' (j + 1)) := s3
      obtain ⟨L, hL⟩ : ∃ u, Hid (u = (S.at_ ((p : Int) - 1)).1) := ⟨_, Eq.refl _⟩
      obtain ⟨lb, hlb⟩ : ∃ u, Hid (u = (S.at_ ((p : Int) - 1)).2) := ⟨_, Eq.refl _⟩
      obtain ⟨R, hR⟩ : ∃ u, Hid (u = (S.at_ (p : Int)).1) := ⟨_, Eq.refl _⟩
      obtain ⟨rb, hrb⟩ : ∃ u, Hid (u = (S.at_ (p : Int)).2) := ⟨_, Eq.refl _⟩
      have HA1 : Hid (∀ W, SqMk w W pa gm S o → Calls Tryz.prog 14 #[.pointer (some ⟨pa, 0, none⟩), .int .i64 ((p : Int) - 1)] W fun e w' => e = .returned (.tuple #[.agg #[.int .u64 L.c, .int .u64 L.k, .int .u64 L.lc, .int .u64 L.lk, .int .u64 L.rc, .int .u64 L.rk], .bool lb]) ∧ Touch (fun _ => False) W w') := fun W h => by
        rw [hL.out, hlb.out]
        exact h.at' _ (by have := HNz.out; have := HLt.out; have := HPj.out; omega)
      have HA2 : Hid (∀ W, SqMk w W pa gm S o → Calls Tryz.prog 14 #[.pointer (some ⟨pa, 0, none⟩), .int .i64 (p : Int)] W fun e w' => e = .returned (.tuple #[.agg #[.int .u64 R.c, .int .u64 R.k, .int .u64 R.lc, .int .u64 R.lk, .int .u64 R.rc, .int .u64 R.rk], .bool rb]) ∧ Touch (fun _ => False) W w') := fun W h => by
        rw [hR.out, hrb.out]
        exact h.at' _ (by have := HNz.out; have := HLt.out; have := HPj.out; omega)
      have HLz : Hid (lb = false → L = .zero) := fun e => by
        rw [hL.out]; exact at_no HE.out.inv _ (by rw [← hlb.out]; exact e)
      have HRz : Hid (rb = false → R = .zero) := fun e => by
        rw [hR.out]; exact at_no HE.out.inv _ (by rw [← hrb.out]; exact e)
      have hUe : btU S 3 ((j : Int) + 1) p = ⟨3, (j : Int) + 1, L.c, L.k, R.c, R.k⟩ := by
        rw [hL.out, hR.out]; rfl
      have HIn : Hid (∀ W, SqMk w W pa gm S o → W.heap[m]? = some (unO ⟨3, (j : Int) + 1, L.c, L.k, R.c, R.k⟩) → Calls Tryz.prog 11 #[.pointer (some ⟨pa, 0, none⟩), .agg #[.int .u64 3, .int .u64 ((j : Int) + 1), .int .u64 L.c, .int .u64 L.k, .int .u64 R.c, .int .u64 R.k]] W fun e w' => e = .returned (.bool true) ∧ SqMk w w' pa gm S' o ∧ w'.heap[m]? = some (unO ⟨3, (j : Int) + 1, L.c, L.k, R.c, R.k⟩)) := fun W h hb => by
        have := h.insB _ s1 HE.out.size (by have := HNz.out; have := HLt.out; omega)
        rw [s2, ← hS'.out, hUe] at this
        refine this.mono ?_
        rintro e w' ⟨rfl, q1, q2⟩
        exact ⟨rfl, q1, q2 _ _ hb⟩
      have HFi : Hid (∀ W, SqMk w W pa gm S' o → Calls Tryz.prog 15 #[.pointer (some ⟨pa, 0, none⟩), .agg #[.int .u64 3, .int .u64 ((j : Int) + 1)]] W fun e w' => e = .returned (.int .i64 (p : Int)) ∧ Touch (fun _ => False) W w') := fun W h => by
        have := h.find 3 ((j : Int) + 1) (by omega) (by omega) (by have := HNz.out; have := HLt.out; omega)
        rw [s4] at this
        exact this
      obtain ⟨N, hN⟩ : ∃ N, Hid (N = j + 1) := ⟨_, Eq.refl _⟩
      have HAll : Hid (∀ W, SqMk w W pa gm S' o → Calls Tryz.prog 12 #[.pointer (some ⟨pa, 0, none⟩), .slice (some ⟨gm, 0, none⟩) 1 1] W fun e w' => ∃ go M vs, e = .returned (.slice (some ⟨go, 0, none⟩) N N) ∧ OutM W w' go N M vs ∧ ∀ i, i < N → M i = [endK vv]) := fun W h => by
        have := h.all (by rw [HE'.out.len]; have := HNz.out; have := HLt.out; omega) HFit.out.1 HFit.out.2.1 HFit.out.2.2
        rw [HE'.out.len, ← hN.out] at this
        refine this.mono ?_
        rintro e w' ⟨go, M, vs, rfl, q1, q2⟩
        refine ⟨go, M, vs, rfl, q1, fun i hi => ?_⟩
        rw [q2 i hi]
        exact HOv.out S' j HE'.out i (by have := hN.out; omega)
      have ew : IntKind.i64.wrap ((p : Int) - 1) = (p : Int) - 1 := by rw [IntKind.wrap_i64]; have := HNz.out; have := HLt.out; have := HPj.out; omega
      clear hL hR hlb hrb hUe s1 s2 s3 s4 hS' HOv
      go_wp2_with fail
      refine (HA1.out _ H8.out.1).mono ?_
      rintro e W9 ⟨rfl, t9⟩
      have H9 : Hid (SqMk w (W9.alloc (unO L)) pa gm S o ∧ (W9.alloc (unO L)).heap[m]? = some (unO ⟨3, (j : Int) + 1, 0, 0, 0, 0⟩) ∧ (W9.alloc (unO L)).heap[W9.heap.size]? = some (unO L)) := ⟨H8.out.1.touch (t9.alloc _), heap_keep (t9.alloc _) H8.out.2, heap_alloc_new _ _⟩
      clear t9 HA1 H8 ew
      go_upto_if 54 with fail
      obtain ⟨X2, hX2⟩ : ∃ X, Hid (X = W9.alloc (unO L)) := ⟨_, Eq.refl _⟩
      rw [← hX2.out] at H9 ⊢
      clear hX2
      generalize W9.heap.size = m1 at *
      go_cut [8] (fun t wx => t = .pointer (some ⟨m, 0, none⟩) ∧ Hid (SqMk w wx pa gm S o ∧ wx.heap[m]? = some (unO ⟨3, (j : Int) + 1, L.c, L.k, 0, 0⟩)))
      case first =>
        clear HIn HFi HAll HA2 HRz
        cases lb with
        | true =>
          obtain ⟨q0, q1, -, -, -, -⟩ := unO_cells H9.out.2.2
          obtain ⟨-, -, p2, p3, -, -⟩ := unO_cells H9.out.2.1
          have z2 : X2.frozen? ⟨m, 2, none⟩ = false := free_of_block H9.out.2.1
          have z3 : X2.frozen? ⟨m, 3, none⟩ = false := free_of_block H9.out.2.1
          have s3 := heap_setCell_same X2 m 2 (.int .u64 L.c) H9.out.2.1
          have p3' : (X2.setCell ⟨m, 2, none⟩ (.int .u64 L.c)).cell? ⟨m, 3, none⟩ = some (.int .u64 0) := by rw [cell_of_block s3]; rfl
          have z3' : (X2.setCell ⟨m, 2, none⟩ (.int .u64 L.c)).frozen? ⟨m, 3, none⟩ = false := free_of_block s3
          have HSs : Hid (SqMk w ((X2.setCell ⟨m, 2, none⟩ (.int .u64 L.c)).setCell ⟨m, 3, none⟩ (.int .u64 L.k)) pa gm S o ∧ ((X2.setCell ⟨m, 2, none⟩ (.int .u64 L.c)).setCell ⟨m, 3, none⟩ (.int .u64 L.k)).heap[m]? = some (unO ⟨3, (j : Int) + 1, L.c, L.k, 0, 0⟩)) := ⟨H9.out.1.at H9.out.2.1 HMs.out _ _ 2 3, gr_set2 H9.out.2.1 _ _⟩
          clear s3 HLz
          go_wp2_with fail
          go_meet
          case rel => exact ⟨rfl, HSs.out⟩
        | false =>
          have HZr : Hid (L = .zero) := HLz.out rfl
          clear HLz
          go_wp2_with fail
          go_meet
          case rel => exact ⟨rfl, H9.out.1, by rw [HZr.out]; exact H9.out.2.1⟩
      case rest =>
        obtain ⟨rfl, H10⟩ := hcut
        obtain ⟨X3, hwf⟩ : ∃ we, we = wc := ⟨_, rfl⟩
        subst hwf
        clear H9 HLz
        go_wp2_with fail
        refine (HA2.out _ H10.out.1).mono ?_
        rintro e W11 ⟨rfl, t11⟩
        have H11 : Hid (SqMk w (W11.alloc (unO R)) pa gm S o ∧ (W11.alloc (unO R)).heap[m]? = some (unO ⟨3, (j : Int) + 1, L.c, L.k, 0, 0⟩) ∧ (W11.alloc (unO R)).heap[W11.heap.size]? = some (unO R)) := ⟨H10.out.1.touch (t11.alloc _), heap_keep (t11.alloc _) H10.out.2, heap_alloc_new _ _⟩
        clear t11 HA2 H10
        go_upto_if 64 with fail
        obtain ⟨X4, hX4⟩ : ∃ X, Hid (X = W11.alloc (unO R)) := ⟨_, Eq.refl _⟩
        rw [← hX4.out] at H11 ⊢
        clear hX4
        generalize W11.heap.size = m2 at *
        go_cut [8] (fun t wx => t = .pointer (some ⟨m, 0, none⟩) ∧ Hid (SqMk w wx pa gm S o ∧ wx.heap[m]? = some (unO ⟨3, (j : Int) + 1, L.c, L.k, R.c, R.k⟩)))
        case first =>
          clear HIn HFi HAll
          cases rb with
          | true =>
            obtain ⟨q0, q1, -, -, -, -⟩ := unO_cells H11.out.2.2
            obtain ⟨-, -, -, -, p4, p5⟩ := unO_cells H11.out.2.1
            have z4 : X4.frozen? ⟨m, 4, none⟩ = false := free_of_block H11.out.2.1
            have z5 : X4.frozen? ⟨m, 5, none⟩ = false := free_of_block H11.out.2.1
            have s4 := heap_setCell_same X4 m 4 (.int .u64 R.c) H11.out.2.1
            have p5' : (X4.setCell ⟨m, 4, none⟩ (.int .u64 R.c)).cell? ⟨m, 5, none⟩ = some (.int .u64 0) := by rw [cell_of_block s4]; rfl
            have z5' : (X4.setCell ⟨m, 4, none⟩ (.int .u64 R.c)).frozen? ⟨m, 5, none⟩ = false := free_of_block s4
            have HSs : Hid (SqMk w ((X4.setCell ⟨m, 4, none⟩ (.int .u64 R.c)).setCell ⟨m, 5, none⟩ (.int .u64 R.k)) pa gm S o ∧ ((X4.setCell ⟨m, 4, none⟩ (.int .u64 R.c)).setCell ⟨m, 5, none⟩ (.int .u64 R.k)).heap[m]? = some (unO ⟨3, (j : Int) + 1, L.c, L.k, R.c, R.k⟩)) := ⟨H11.out.1.at H11.out.2.1 HMs.out _ _ 4 5, gr_set4 H11.out.2.1 _ _⟩
            clear s4 HRz
            go_wp2_with fail
            go_meet
            case rel => exact ⟨rfl, HSs.out⟩
          | false =>
            have HZr : Hid (R = .zero) := HRz.out rfl
            clear HRz
            go_wp2_with fail
            go_meet
            case rel => exact ⟨rfl, H11.out.1, by rw [HZr.out]; exact H11.out.2.1⟩
        case rest =>
          obtain ⟨rfl, H12⟩ := hcut
          obtain ⟨X5, hwf⟩ : ∃ we, we = wc := ⟨_, rfl⟩
          subst hwf
          obtain ⟨q0, q1, q2, q3, q4, q5⟩ := unO_cells H12.out.2
          clear HRz H11
          go_wp2_with fail
          refine (HIn.out _ H12.out.1 H12.out.2).mono ?_
          rintro e X6 ⟨rfl, h6, m6⟩
          have H6 : Hid (SqMk w X6 pa gm S' o ∧ X6.heap[m]? = some (unO ⟨3, (j : Int) + 1, L.c, L.k, R.c, R.k⟩)) := ⟨h6, m6⟩
          clear h6 m6 HIn q0 q1 q2 q3 q4 q5 H12
          obtain ⟨q0, q1, -, -, -, -⟩ := unO_cells H6.out.2
          go_wp2_with fail
          refine (HFi.out _ H6.out.1).mono ?_
          rintro e X7 ⟨rfl, t7⟩
          have H7 : Hid (SqMk w X7 pa gm S' o) := H6.out.1.touch t7
          have hpe : ((p : Int) != (p : Int)) = false := by simp
          clear t7 HFi H6 q0 q1
          go_wp2_with fail
          refine (HAll.out _ H7.out).mono ?_
          rintro e X8 ⟨go, M, vs, rfl, hO, hM⟩
          have HO : Hid (OutM X7 X8 go N M vs) := hO
          have HM : Hid (∀ i, i < N → M i = [endK vv]) := hM
          have H8 : Hid (SqMk w X8 pa gm S' o) := H7.out.touch hO.t
          have hnb : ((N : Int) != (j : Int) + 1) = false := by have := hN.out; simp; omega
          have HNb : Hid (N ≤ 100) := by have := hN.out; have := HNz.out; have := HLt.out; rw [Hid]; omega
          clear hO hM HAll H7 hpe
          go_wp2_with fail
          clear hnb
          go_loopw [15] (fun i wq => ∃ k : Nat, i = .int .i64 (k : Int) ∧ k ≤ N ∧ Hid (Touch (fun _ => False) X8 wq)) (fun i _ => N - (intOf i).toNat)
          case atStart => exact ⟨0, rfl, Nat.zero_le _, Touch.refl _ _⟩
          case round =>
            obtain ⟨k, hk15, hk, HTq⟩ := hrel
            subst hk15
            rename World => wq
            by_cases hltk : k < N
            · have hOq := HO.out.keep HTq.out
              have hsl := hOq.sl hltk
              obtain ⟨a, c, hv⟩ := ownY_len (hOq.own k hltk)
              have hc : wq.cell? ⟨go, k, none⟩ = some (vs k) := by
                obtain ⟨cc, b1, b2, b3⟩ := hOq.blk
                rw [cell_of_block b1]
                exact b3 k hltk
              rw [HM.out k hltk] at hsl hv
              rw [hv] at hc hsl
              simp only [List.length_singleton] at hc hsl
              have HSl : Hid (SlY wq (.slice a 1 c) [endK vv]) := hsl
              have i1 : (0 : Int) ≤ (k : Int) := by omega
              have i2 : (k : Int) < (N : Int) := by omega
              have i3 : (k : Int) + 1 < 9223372036854775808 := by have := HNb.out; omega
              have hm0 : Hid (N - (k + 1) < N - k ∧ k + 1 ≤ N) := by rw [Hid]; omega
              clear hltk hk hOq hsl hv
              go_wp2_with fail
              refine (HSm.out _ _ _ (HSl.out.touch ((Touch.refl _ _).alloc _)) (SlY.new wq (endK vv))).mono ?_
              rintro e X9 ⟨rfl, t9⟩
              have HT9 : Hid (Touch (fun _ => False) X8 X9) := (HTq.out.alloc _).trans t9
              clear t9 HSl hc
              go_wp2_with fail
              go_roundw
              case rel => exact ⟨k + 1, by go_num, hm0.out.2, HT9.out⟩
              case measure => simp only [intOf]; have := hm0.out; omega
            · have i2 : ¬ (k : Int) < (N : Int) := by omega
              have HFin : Hid (SqMk w wq pa gm S' o) := H8.out.touch HTq.out
              have hm0 : Hid (n0 - (j + 1) < n0 - j ∧ j + 1 ≤ n0) := by have := HLt.out; rw [Hid]; omega
              clear hltk hk HTq
              go_wp2_with fail
              go_roundw
              case rel => exact ⟨j + 1, by go_num, hm0.out.2, S', HE'.out, HFin.out⟩
              case measure => simp only [intOf]; have := hm0.out; omega
end Go.Proofs.YtnilikomoapcaaaGreat
