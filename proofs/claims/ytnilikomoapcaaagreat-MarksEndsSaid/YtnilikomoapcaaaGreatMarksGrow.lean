/- quirelaw11.MarksGrow: what is put in between units that a mark is over shows it. -/
import Derived.Test.YtnilikomoapcaaaGreatPart32
import Derived.Deep.CutBlock
import Derived.Deep.DeepCutAuto
namespace Go.Proofs.YtnilikomoapcaaaGreat
open Go.RowKit
set_option linter.unusedVariables false
set_option linter.unusedSimpArgs false
set_option maxRecDepth 100000

theorem gr_set2 {W : World} {m : Nat} {u : Un} (h : W.heap[m]? = some (unO u)) (a b : Int) : ((W.setCell ⟨m, 2, none⟩ (.int .u64 a)).setCell ⟨m, 3, none⟩ (.int .u64 b)).heap[m]? = some (unO ⟨u.c, u.k, a, b, u.rc, u.rk⟩) := heap_setCell_same _ _ _ _ (heap_setCell_same _ _ _ _ h)
theorem gr_set4 {W : World} {m : Nat} {u : Un} (h : W.heap[m]? = some (unO u)) (a b : Int) : ((W.setCell ⟨m, 4, none⟩ (.int .u64 a)).setCell ⟨m, 5, none⟩ (.int .u64 b)).heap[m]? = some (unO ⟨u.c, u.k, u.lc, u.lk, a, b⟩) := heap_setCell_same _ _ _ _ (heap_setCell_same _ _ _ _ h)
theorem SqMk.at {w W : World} {pa gm m : Nat} {S : SS} {o : O} {u : Un} (h : SqMk w W pa gm S o) (hm : W.heap[m]? = some (unO u)) (hl : w.heap.size ≤ m) (a b : Value) (i j : Nat) : SqMk w ((W.setCell ⟨m, i, none⟩ a).setCell ⟨m, j, none⟩ b) pa gm S o := by
  obtain ⟨⟨A, s⟩, h1, h2, h3⟩ := h
  have t : Touch (fun k => k = m) W ((W.setCell ⟨m, i, none⟩ a).setCell ⟨m, j, none⟩ b) := ((Touch.refl (fun k => k = m) W).setCell ⟨m, i, none⟩ a fun _ => rfl).setCell ⟨m, j, none⟩ b fun _ => rfl
  have hne : gm ≠ m := fun e => by
    rw [e, hm] at h1
    simp at h1
  have hA : ∀ k, A.has k → ¬ k = m := fun k hk e => s.mem.noBox hm (e ▸ hk)
  exact ⟨⟨A, ⟨s.mem.keep t hA, s.at_, s.new, s.inv⟩⟩, (t.block _ (lt_of_heap h1) hne).trans h1, h2, h3.then t fun k hk e => by omega⟩
theorem ownY_len {W : World} {v : Value} {n : Nat} {xs : List Value} (h : W.ownsRow 0 55 5 v n xs) : ∃ a c, v = .slice a n c := by
  rcases h.2 with ⟨e, h0⟩ | ⟨g, cap, cur, e, _⟩
  · exact ⟨none, 0, by rw [e, h0]⟩
  · exact ⟨_, _, e⟩
theorem grow_fits (f t : Nat) (hf : f ≤ 100) (ht : t ≤ 100) : (markK 1 1 ⟨#[107]⟩ 5 1 ((f : Int) + 1) false 1 ((t : Int) + 1) true).fits := by
  constructor <;> simp [markK] <;> omega
set_option maxHeartbeats 16000000 in
theorem marksGrow_any (w : World) (n0 f0 t0 : Int) (hn0 : -9223372036854775808 ≤ n0 ∧ n0 ≤ 9223372036854775807) (hf0 : -9223372036854775808 ≤ f0 ∧ f0 ≤ 9223372036854775807) (ht0 : -9223372036854775808 ≤ t0 ∧ t0 ≤ 9223372036854775807) :
    Calls Tryz.prog 3 #[.int .i64 n0, .int .i64 f0, .int .i64 t0] w fun e w' => e = .returned (.bool true) ∧ Touch (fun _ => False) w w' := by
  have HK : Hid (Calls Tryz.prog 5 #[] w fun e w' => e = .returned (.bool true) ∧ Touch (fun _ => False) w w') := known_any w
  have HP1 : Hid (∀ W, Calls Tryz.prog 6 #[.int .i64 n0, .int .i64 20] W fun e w' => ∃ p : Nat, e = .returned (.int .i64 (p : Int)) ∧ p < 20 ∧ w' = W) := fun W => placeG_any n0 20 (by omega) W hn0.1 hn0.2
  have HP2 : Hid (∀ W (k : Int) (m : Nat), (k = f0 ∨ k = t0) → 1 ≤ m ∧ m ≤ 1000 → Calls Tryz.prog 6 #[.int .i64 k, .int .i64 (m : Int)] W fun e w' => ∃ p : Nat, e = .returned (.int .i64 (p : Int)) ∧ p < m ∧ w' = W) := fun W k m hk hm => by
    rcases hk with rfl | rfl
    · exact placeG_any _ m (by omega) W hf0.1 hf0.2
    · exact placeG_any _ m (by omega) W ht0.1 ht0.2
  have HNw : Hid (∀ W, Touch (fun _ => False) w W → Calls Tryz.prog 7 #[] W fun e w' => ∃ p B, e = .returned (.pointer (some ⟨p, 0, none⟩)) ∧ Sq1 w w' p B .new ∧ (∀ k, B.has k → W.heap.size ≤ k) ∧ Touch (fun _ => False) W w') := fun W t => Sq1.fresh w W t
  have HAt : Hid (∀ (i : Nat) W, i ≤ 1000 → Calls Tryz.prog 8 #[.int .i64 (i : Int)] W fun e w' => e = .returned (.agg #[.int .u64 1, .int .u64 ((i : Int) + 1)]) ∧ Touch (fun _ => False) W w') := fun i W hi => growAt_any i hi W
  clear hn0 hf0 ht0
  go_enter Tryz.func3, Tryz.ntmps3
  go_wp2_with fail
  refine HK.out.mono ?_
  rintro e W1 ⟨rfl, t1⟩
  have HT1 : Hid (Touch (fun _ => False) w W1) := t1
  clear t1 HK
  go_upto_region 3 with fail
  go_cut [0] (fun x wx => ∃ n : Nat, x = .int .i64 (n : Int) ∧ Hid (2 ≤ n ∧ n ≤ 21 ∧ Touch (fun _ => False) w wx))
  case first =>
    go_wp2_with fail
    refine (HP1.out _).mono ?_
    rintro e W2 ⟨p, rfl, hp, hw⟩
    rw [hw]
    clear hw HP1
    have ew : IntKind.i64.wrap (2 + (p : Int)) = 2 + (p : Int) := by rw [IntKind.wrap_i64]; omega
    go_wp2_with fail
    go_meet
    case rel => exact ⟨p + 2, by congr 1; omega, by omega, by omega, HT1.out⟩
  case rest =>
  obtain ⟨n, rfl, H2⟩ := hcut
  obtain ⟨W2, hwf⟩ : ∃ we, we = wc := ⟨_, rfl⟩
  subst hwf
  clear HP1 HT1
  have HN : Hid (2 ≤ n ∧ n ≤ 21) := ⟨H2.out.1, H2.out.2.1⟩
  have HT2 : Hid (Touch (fun _ => False) w W2) := H2.out.2.2
  clear H2
  go_upto_region 4 with fail
  go_cut [1, 2] (fun x y wx => ∃ a b : Nat, x = .int .i64 (a : Int) ∧ y = .int .i64 (b : Int) ∧ Hid (a < n ∧ b < n ∧ Touch (fun _ => False) w wx))
  case first =>
    go_wp2_with fail
    refine (HP2.out _ f0 n (.inl rfl) (by have := HN.out; omega)).mono ?_
    rintro e W3 ⟨a, rfl, ha, hw⟩
    rw [hw]
    clear hw
    go_wp2_with fail
    refine (HP2.out _ t0 n (.inr rfl) (by have := HN.out; omega)).mono ?_
    rintro e W4 ⟨b, rfl, hb, hw⟩
    rw [hw]
    clear hw
    go_wp2_with fail
    go_meet
    case rel => exact ⟨a, b, rfl, rfl, ha, hb, HT2.out⟩
  case rest =>
  obtain ⟨a, b, rfl, rfl, H3⟩ := hcut
  obtain ⟨W3, hwf⟩ : ∃ we, we = wc := ⟨_, rfl⟩
  subst hwf
  clear HP2 HT2
  go_upto_if 28 with fail
  go_cut [1, 2] (fun x y wx => ∃ f t : Nat, x = .int .i64 (f : Int) ∧ y = .int .i64 (t : Int) ∧ Hid (f ≤ t ∧ t < n ∧ Touch (fun _ => False) w wx))
  case first =>
    by_cases hab : b < a
    · have d : (b : Int) < (a : Int) := by omega
      go_wp2_with fail
      go_meet
      case rel => exact ⟨b, a, rfl, rfl, by omega, H3.out.1, H3.out.2.2⟩
    · have d : ¬ (b : Int) < (a : Int) := by omega
      go_wp2_with fail
      go_meet
      case rel => exact ⟨a, b, rfl, rfl, by omega, H3.out.2.1, H3.out.2.2⟩
  case rest =>
  obtain ⟨f, t, rfl, rfl, H4⟩ := hcut
  obtain ⟨W4, hwf⟩ : ∃ we, we = wc := ⟨_, rfl⟩
  subst hwf
  clear H3
  have HFT : Hid (f ≤ t ∧ t < n) := ⟨H4.out.1, H4.out.2.1⟩
  have HT4 : Hid (Touch (fun _ => False) w W4) := H4.out.2.2
  clear H4
  obtain ⟨S0, hS0⟩ : ∃ S0, Hid (S0 = SS.new.run ⟨1, 1, 0, 0, 0, 0⟩ n) := ⟨_, Eq.refl _⟩
  have HG0 : Hid (GI S0 n 0) := by rw [hS0.out]; have := HN.out; exact (GI.first (by omega) (by omega)).2.2
  have HA0 : Hid (∀ W, Calls Tryz.prog 8 #[.int .i64 0] W fun e w' => e = .returned (.agg #[.int .u64 1, .int .u64 1]) ∧ Touch (fun _ => False) W w') := fun W => HAt.out 0 W (by omega)
  go_wp2_with fail
  refine (HNw.out _ HT4.out).mono ?_
  rintro e W5 ⟨pa, A, rfl, a5, -, t5⟩
  have H5 : Hid (Sq1 w W5 pa A .new ∧ Touch (fun _ => False) w W5) := ⟨a5, HT4.out.trans t5⟩
  clear a5 t5 HNw HT4
  go_wp2_with fail
  refine (HA0.out _).mono ?_
  rintro e W6 ⟨rfl, t6⟩
  have HRun : Hid (Calls Tryz.prog 9 #[.pointer (some ⟨pa, 0, none⟩), .agg #[.int .u64 1, .int .u64 1, .int .u64 0, .int .u64 0, .int .u64 0, .int .u64 0], .int .i64 (n : Int)] W6 fun e w' => e = .returned (.bool true) ∧ (∃ A, Sq1 w w' pa A S0) ∧ Touch (fun _ => False) w w') := by
    have hb := HN.out
    obtain ⟨h1, h2, h3⟩ := GI.first (n := n) (by omega) (by omega)
    have := (H5.out.1.touch t6).runN ⟨1, 1, 0, 0, 0, 0⟩ h1 (n : Int) (by omega) Size.new (by omega)
    rw [h2] at this
    refine this.mono ?_
    rintro e w' ⟨rfl, B', s, _, t⟩
    exact ⟨rfl, ⟨B', by rw [hS0.out]; exact s⟩, (H5.out.1.touch t6).touch0 (H5.out.2.trans t6) t⟩
  clear t6 H5 HA0
  go_wp2_with fail
  refine HRun.out.mono ?_
  rintro e W7 ⟨rfl, s7, t7⟩
  have H7 : Hid ((∃ A, Sq1 w W7 pa A S0) ∧ Touch (fun _ => False) w W7) := ⟨s7, t7⟩
  clear s7 t7 HRun hS0
  obtain ⟨o, ho⟩ : ∃ o, Hid (o = markK 1 1 ⟨#[107]⟩ 5 1 ((f : Int) + 1) false 1 ((t : Int) + 1) true) := ⟨_, Eq.refl _⟩
  have HMk : Hid (∀ W, Calls Tryz.prog 10 #[.int .u64 1, .int .u64 1, .string ⟨#[107]⟩, .int .i64 5, .agg #[.int .u64 1, .int .u64 ((f : Int) + 1), .bool false], .agg #[.int .u64 1, .int .u64 ((t : Int) + 1), .bool true]] W fun e w' => e = .returned o.val ∧ Touch (fun _ => False) W w') := fun W => by rw [ho.out]; exact mark_any _ _ _ _ _ _ _ _ _ _ W
  have HAf : Hid (∀ W, Calls Tryz.prog 8 #[.int .i64 (f : Int)] W fun e w' => e = .returned (.agg #[.int .u64 1, .int .u64 ((f : Int) + 1)]) ∧ Touch (fun _ => False) W w') := fun W => HAt.out f W (by have := HN.out; have := HFT.out; omega)
  have HAu : Hid (∀ W, Calls Tryz.prog 8 #[.int .i64 (t : Int)] W fun e w' => e = .returned (.agg #[.int .u64 1, .int .u64 ((t : Int) + 1)]) ∧ Touch (fun _ => False) W w') := fun W => HAt.out t W (by have := HN.out; have := HFT.out; omega)
  have hbs := build_op o
  go_upto_region 11 with fail
  go_cut [9] (fun x wx => ∃ gm, x = .slice (some ⟨gm, 0, none⟩) 1 1 ∧ Hid (SqMk w wx pa gm S0 o))
  case first =>
    go_wp2_with fail
    refine (HAf.out _).mono ?_
    rintro e W8 ⟨rfl, t8⟩
    go_wp2_with fail
    refine (HAu.out _).mono ?_
    rintro e W9 ⟨rfl, t9⟩
    go_wp2_with fail
    refine (HMk.out _).mono ?_
    rintro e Wa ⟨rfl, ta⟩
    have Ha : Hid (Touch (fun _ => False) W7 Wa) := (t8.trans t9).trans ta
    clear t8 t9 ta
    go_wp2_with fail
    go_meet
    case rel =>
      refine ⟨_, rfl, ?_, heap_alloc_new _ _, ?_, (H7.out.2.trans Ha.out).alloc _⟩
      · obtain ⟨A, s⟩ := H7.out.1
        exact ⟨A, s.touch (Ha.out.alloc _)⟩
      · exact (H7.out.2.trans Ha.out).size
  case rest =>
  obtain ⟨gm, rfl, H8⟩ := hcut
  obtain ⟨W8, hwf⟩ : ∃ we, we = wc := ⟨_, rfl⟩
  subst hwf
  clear hbs HMk HAf HAu H7
  go_wp2_with fail
  go_loopw [10] (fun i wr => ∃ j : Nat, i = .int .i64 (j : Int) ∧ j ≤ n + 1 ∧ ∃ S, Hid (GI S n j ∧ SqMk w wr pa gm S o)) (fun i _ => n + 1 - (intOf i).toNat)
  case atStart => exact ⟨0, rfl, by omega, S0, HG0.out, H8.out⟩
  case round =>
    obtain ⟨j, hi10, hj, S, HS⟩ := hrel
    by_cases hlt : j ≤ n
    rotate_left
    · have hjn : j = n + 1 := by omega
      subst hi10
      have hle : ¬ (j : Int) ≤ (n : Int) := by omega
      have hleN : ¬ j ≤ n := hlt
      have hG : GI S n (n + 1) := by have := HS.out.1; rw [hjn] at this; exact this
      have hb := HN.out
      have hft := HFT.out
      obtain ⟨N, hN⟩ : ∃ N, Hid (N = S.units.length) := ⟨_, Eq.refl _⟩
      have HNe : Hid (N = 2 * n + 1) := by rw [Hid, hN.out, hG.len]; omega
      have hov : overM S o = (2 * (f : Int) + 1, 2 * (t : Int) + 2) := hG.over hft.1 hft.2 (by omega) o (by rw [ho.out]) (by rw [ho.out]) (by rw [ho.out]) (by rw [ho.out]) (by rw [ho.out]) (by rw [ho.out])
      have HAll : Hid (Calls Tryz.prog 12 #[.pointer (some ⟨pa, 0, none⟩), .slice (some ⟨gm, 0, none⟩) 1 1] wr fun e w' => ∃ go M vs, e = .returned (.slice (some ⟨go, 0, none⟩) N N) ∧ OutM wr w' go N M vs ∧ ∀ i, i < N → (M i).length = if 2 * (f : Int) < (i : Int) ∧ (i : Int) < 2 * (t : Int) + 2 then 1 else 0) := by
        have h := HS.out.2.all (by rw [hG.len]; omega) (by rw [ho.out]; exact grow_fits f t (by omega) (by omega)) (by rw [ho.out]; show (⟨#[107]⟩ : ByteArray).size ≤ maxLen; decide) (by rw [ho.out])
        rw [← hN.out] at h
        refine h.mono ?_
        rintro e w' ⟨go, M, vs, rfl, h1, h2⟩
        refine ⟨go, M, vs, rfl, h1, fun i hi => ?_⟩
        rw [h2 i hi]
        unfold sh1 oneS
        rw [hov]
        have hv : (o.vk == 0) = false := by rw [ho.out]; rfl
        simp only [hv, true_and]
        by_cases hc : 2 * (f : Int) < (i : Int) ∧ (i : Int) < 2 * (t : Int) + 2
        · rw [if_pos hc, if_pos (by omega)]; rfl
        · rw [if_neg hc, if_neg (by omega)]; rfl
      have HTw : Hid (Touch (fun _ => False) w wr) := HS.out.2.2.2.2
      have ew1 : IntKind.i64.wrap (2 * (n : Int)) = 2 * (n : Int) := by rw [IntKind.wrap_i64]; omega
      have ew2 : IntKind.i64.wrap (2 * (n : Int) + 1) = 2 * (n : Int) + 1 := by rw [IntKind.wrap_i64]; omega
      have hnb : ((N : Int) != 2 * (n : Int) + 1) = false := by have := HNe.out; simp; omega
      have ef1 : IntKind.i64.wrap (2 * (f : Int)) = 2 * (f : Int) := by rw [IntKind.wrap_i64]; omega
      have et1 : IntKind.i64.wrap (2 * (t : Int)) = 2 * (t : Int) := by rw [IntKind.wrap_i64]; omega
      have et2 : IntKind.i64.wrap (2 * (t : Int) + 2) = 2 * (t : Int) + 2 := by rw [IntKind.wrap_i64]; omega
      have HNb : Hid (N ≤ 100) := by have := HNe.out; rw [Hid]; omega
      clear hjn hG hb hft hov HS HG0 H8 hN hlt hj HAt ho
      go_wp2_with fail
      refine HAll.out.mono ?_
      rintro e W9 ⟨go, M, vs, rfl, hO, hM⟩
      have HO : Hid (OutM wr W9 go N M vs) := hO
      have HM : Hid (∀ i, i < N → (M i).length = if 2 * (f : Int) < (i : Int) ∧ (i : Int) < 2 * (t : Int) + 2 then 1 else 0) := hM
      clear hO hM HAll hle hleN
      go_wp2_with fail
      clear hnb ew1 ew2
      go_loopw [13] (fun i wq => ∃ k : Nat, i = .int .i64 (k : Int) ∧ k ≤ N ∧ wq = W9) (fun i _ => N - (intOf i).toNat)
      case atStart => exact ⟨0, rfl, Nat.zero_le _, rfl⟩
      case round =>
        obtain ⟨k, hk13, hk, hwq⟩ := hrel
        have hwq' := hwq.symm
        clear hwq
        subst hwq'
        by_cases hlt : k < N
        · obtain ⟨a, c, hv⟩ := ownY_len (HO.out.own k hlt)
          have hc : W9.cell? ⟨go, k, none⟩ = some (vs k) := by
            obtain ⟨cc, b1, b2, b3⟩ := HO.out.blk
            rw [cell_of_block b1]
            exact b3 k hlt
          rw [hv, HM.out k hlt] at hc
          subst hk13
          have i1 : (0 : Int) ≤ (k : Int) := by omega
          have i2 : (k : Int) < (N : Int) := by omega
          have i3 : (k : Int) + 1 < 9223372036854775808 := by have := HNb.out; omega
          have hm0 : Hid (N - (k + 1) < N - k ∧ k + 1 ≤ N) := by rw [Hid]; omega
          clear hv
          by_cases h1 : 2 * (f : Int) < (k : Int)
          · by_cases h2 : (k : Int) < 2 * (t : Int) + 2
            · rw [if_pos ⟨h1, h2⟩] at hc
              clear hlt hk
              go_wp2_with fail
              go_roundw
              case rel => exact ⟨k + 1, by go_num, hm0.out.2, trivial⟩
              case measure => simp only [intOf]; have := hm0.out; omega
            · rw [if_neg (fun q => h2 q.2)] at hc
              clear hlt hk
              go_wp2_with fail
              go_roundw
              case rel => exact ⟨k + 1, by go_num, hm0.out.2, trivial⟩
              case measure => simp only [intOf]; have := hm0.out; omega
          · rw [if_neg (fun q => h1 q.1)] at hc
            clear hlt hk
            go_wp2_with fail
            go_roundw
            case rel => exact ⟨k + 1, by go_num, hm0.out.2, trivial⟩
            case measure => simp only [intOf]; have := hm0.out; omega
        · subst hk13
          have i2 : ¬ (k : Int) < (N : Int) := by omega
          have HTe : Hid (Touch (fun _ => False) w W9) := HTw.out.trans HO.out.t
          clear hlt hk
          go_wp2_with fail
          go_ret
          exact ⟨rfl, HTe.out⟩
    by_cases h0 : 0 < j
    · by_cases hn1 : j < n
      · subst hi10
        have hb := HN.out
        have ejw : IntKind.u64.wrap ((j : Int) + 1) = (j : Int) + 1 := by rw [IntKind.wrap_u64]; omega
        have ejm : (j : Int) + 1 < 9223372036854775808 := by omega
        have hle : (j : Int) ≤ (n : Int) := by omega
        have hleN : j ≤ n := hlt
        have HLe : Hid (j ≤ n) := hlt
        obtain ⟨g1, g2, g3⟩ := HS.out.1.step hlt (by omega)
        have HNx : Hid (GI (S.run (grU n j) 1) n (j + 1)) := g3
        have HIns : Hid (∀ W, SqMk w W pa gm S o → Calls Tryz.prog 11 #[.pointer (some ⟨pa, 0, none⟩), .agg #[.int .u64 2, .int .u64 ((j : Int) + 1), .int .u64 1, .int .u64 (j : Int), .int .u64 1, .int .u64 ((j : Int) + 1)]] W fun e w' => e = .returned (.bool true) ∧ SqMk w w' pa gm (S.run (grU n j) 1) o) := fun W hW => by
          have h := hW.ins (grU n j) g1 HS.out.1.size (by omega)
          rw [g2] at h
          have e : grU n j = ⟨2, (j : Int) + 1, 1, (j : Int), 1, ((j : Int) + 1)⟩ := by unfold grU; rw [if_pos h0, if_pos h0, if_pos hn1, if_pos hn1]
          simp only [e] at h ⊢
          exact h
        have HSq : Hid (SqMk w wr pa gm S o) := HS.out.2
        have HMs : Hid (w.heap.size ≤ wr.heap.size) := HSq.out.2.2.2.size
        have d0 : (0 : Int) < (j : Int) := by omega
        have d0N : 0 < j := h0
        have d1 : (j : Int) < (n : Int) := by omega
        have d1N : j < n := hn1
        have ewm : IntKind.i64.wrap ((j : Int) - 1) = (j : Int) - 1 := by rw [IntKind.wrap_i64]; omega
        have HAm : Hid (∀ W, Calls Tryz.prog 8 #[.int .i64 ((j : Int) - 1)] W fun e w' => e = .returned (.agg #[.int .u64 1, .int .u64 (j : Int)]) ∧ Touch (fun _ => False) W w') := fun W => by
          have h := HAt.out (j - 1) W (by omega)
          have e1 : ((j - 1 : Nat) : Int) = (j : Int) - 1 := by omega
          have e2 : (j : Int) - 1 + 1 = (j : Int) := by omega
          rw [e1, e2] at h
          exact h
        have HAj : Hid (∀ W, Calls Tryz.prog 8 #[.int .i64 (j : Int)] W fun e w' => e = .returned (.agg #[.int .u64 1, .int .u64 ((j : Int) + 1)]) ∧ Touch (fun _ => False) W w') := fun W => HAt.out j W (by omega)
        clear g1 g2 g3 hb hlt hj h0 hn1 HS HG0 H8
        obtain ⟨m, hm⟩ : ∃ m, Hid (m = wr.heap.size) := ⟨_, Eq.refl _⟩
        have HX0 : Hid (SqMk w (wr.alloc (unO ⟨2, (j : Int) + 1, 0, 0, 0, 0⟩)) pa gm S o ∧ (wr.alloc (unO ⟨2, (j : Int) + 1, 0, 0, 0, 0⟩)).heap[m]? = some (unO ⟨2, (j : Int) + 1, 0, 0, 0, 0⟩)) := ⟨HSq.out.touch ((Touch.refl _ _).alloc _), by rw [hm.out]; exact heap_alloc_new _ _⟩
        have HMs' : Hid (w.heap.size ≤ m) := by rw [hm.out]; exact HMs.out
        go_wp2_with fail
        rw [← hm.out]
        refine (HAm.out _).mono ?_
        rintro e X1 ⟨rfl, t1⟩
        have HX1 : Hid (SqMk w X1 pa gm S o ∧ X1.heap[m]? = some (unO ⟨2, (j : Int) + 1, 0, 0, 0, 0⟩)) := ⟨HX0.out.1.touch t1, heap_keep t1 HX0.out.2⟩
        clear t1 HX0 HAm ewm
        obtain ⟨-, -, p2, p3, -, -⟩ := unO_cells HX1.out.2
        have z2 : X1.frozen? ⟨m, 2, none⟩ = false := free_of_block HX1.out.2
        have z3 : X1.frozen? ⟨m, 3, none⟩ = false := free_of_block HX1.out.2
        have s3 := heap_setCell_same X1 m 2 (.int .u64 1) HX1.out.2
        have p3' : (X1.setCell ⟨m, 2, none⟩ (.int .u64 1)).cell? ⟨m, 3, none⟩ = some (.int .u64 0) := by rw [cell_of_block s3]; rfl
        have z3' : (X1.setCell ⟨m, 2, none⟩ (.int .u64 1)).frozen? ⟨m, 3, none⟩ = false := free_of_block s3
        have HX2 : Hid (SqMk w ((X1.setCell ⟨m, 2, none⟩ (.int .u64 1)).setCell ⟨m, 3, none⟩ (.int .u64 (j : Int))) pa gm S o ∧ ((X1.setCell ⟨m, 2, none⟩ (.int .u64 1)).setCell ⟨m, 3, none⟩ (.int .u64 (j : Int))).heap[m]? = some (unO ⟨2, (j : Int) + 1, 1, (j : Int), 0, 0⟩)) := ⟨HX1.out.1.at HX1.out.2 HMs'.out _ _ 2 3, gr_set2 HX1.out.2 1 (j : Int)⟩
        clear s3
        go_wp2_with fail
        clear p2 p3 z2 z3 p3' z3'
        refine (HAj.out _).mono ?_
        rintro e X3 ⟨rfl, t3⟩
        have HX3 : Hid (SqMk w X3 pa gm S o ∧ X3.heap[m]? = some (unO ⟨2, (j : Int) + 1, 1, (j : Int), 0, 0⟩)) := ⟨HX2.out.1.touch t3, heap_keep t3 HX2.out.2⟩
        clear t3 HX2 HAj
        obtain ⟨-, -, -, -, p4, p5⟩ := unO_cells HX3.out.2
        have z4 : X3.frozen? ⟨m, 4, none⟩ = false := free_of_block HX3.out.2
        have z5 : X3.frozen? ⟨m, 5, none⟩ = false := free_of_block HX3.out.2
        have s5 := heap_setCell_same X3 m 4 (.int .u64 1) HX3.out.2
        have p5' : (X3.setCell ⟨m, 4, none⟩ (.int .u64 1)).cell? ⟨m, 5, none⟩ = some (.int .u64 0) := by rw [cell_of_block s5]; rfl
        have z5' : (X3.setCell ⟨m, 4, none⟩ (.int .u64 1)).frozen? ⟨m, 5, none⟩ = false := free_of_block s5
        have HX4 : Hid (SqMk w ((X3.setCell ⟨m, 4, none⟩ (.int .u64 1)).setCell ⟨m, 5, none⟩ (.int .u64 ((j : Int) + 1))) pa gm S o ∧ ((X3.setCell ⟨m, 4, none⟩ (.int .u64 1)).setCell ⟨m, 5, none⟩ (.int .u64 ((j : Int) + 1))).heap[m]? = some (unO ⟨2, (j : Int) + 1, 1, (j : Int), 1, (j : Int) + 1⟩)) := ⟨HX3.out.1.at HX3.out.2 HMs'.out _ _ 4 5, gr_set4 HX3.out.2 1 ((j : Int) + 1)⟩
        clear s5
        obtain ⟨q0, q1, q2, q3, q4, q5⟩ := unO_cells HX4.out.2
        go_wp2_with fail
        clear p4 p5 z4 z5 p5' z5'
        refine (HIns.out _ HX4.out.1).mono ?_
        rintro e X5 ⟨rfl, h5⟩
        have H5 : Hid (SqMk w X5 pa gm (S.run (grU n j) 1) o) := h5
        clear h5 HIns HX4 q0 q1 q2 q3 q4 q5
        have hm0 : Hid (n + 1 - (j + 1) < n + 1 - j ∧ j + 1 ≤ n + 1) := by rw [Hid]; have := HLe.out; omega
        go_wp2_with fail
        go_roundw
        case rel => exact ⟨j + 1, by go_num, hm0.out.2, _, HNx.out, H5.out⟩
        case measure => simp only [intOf]; have := hm0.out; omega
      · subst hi10
        have hb := HN.out
        have ejw : IntKind.u64.wrap ((j : Int) + 1) = (j : Int) + 1 := by rw [IntKind.wrap_u64]; omega
        have ejm : (j : Int) + 1 < 9223372036854775808 := by omega
        have hle : (j : Int) ≤ (n : Int) := by omega
        have hleN : j ≤ n := hlt
        have HLe : Hid (j ≤ n) := hlt
        obtain ⟨g1, g2, g3⟩ := HS.out.1.step hlt (by omega)
        have HNx : Hid (GI (S.run (grU n j) 1) n (j + 1)) := g3
        have HIns : Hid (∀ W, SqMk w W pa gm S o → Calls Tryz.prog 11 #[.pointer (some ⟨pa, 0, none⟩), .agg #[.int .u64 2, .int .u64 ((j : Int) + 1), .int .u64 1, .int .u64 (j : Int), .int .u64 0, .int .u64 0]] W fun e w' => e = .returned (.bool true) ∧ SqMk w w' pa gm (S.run (grU n j) 1) o) := fun W hW => by
          have h := hW.ins (grU n j) g1 HS.out.1.size (by omega)
          rw [g2] at h
          have e : grU n j = ⟨2, (j : Int) + 1, 1, (j : Int), 0, 0⟩ := by unfold grU; rw [if_pos h0, if_pos h0, if_neg hn1, if_neg hn1]
          simp only [e] at h ⊢
          exact h
        have HSq : Hid (SqMk w wr pa gm S o) := HS.out.2
        have HMs : Hid (w.heap.size ≤ wr.heap.size) := HSq.out.2.2.2.size
        have d0 : (0 : Int) < (j : Int) := by omega
        have d0N : 0 < j := h0
        have d1 : ¬ (j : Int) < (n : Int) := by omega
        have d1N : ¬ j < n := hn1
        have ewm : IntKind.i64.wrap ((j : Int) - 1) = (j : Int) - 1 := by rw [IntKind.wrap_i64]; omega
        have HAm : Hid (∀ W, Calls Tryz.prog 8 #[.int .i64 ((j : Int) - 1)] W fun e w' => e = .returned (.agg #[.int .u64 1, .int .u64 (j : Int)]) ∧ Touch (fun _ => False) W w') := fun W => by
          have h := HAt.out (j - 1) W (by omega)
          have e1 : ((j - 1 : Nat) : Int) = (j : Int) - 1 := by omega
          have e2 : (j : Int) - 1 + 1 = (j : Int) := by omega
          rw [e1, e2] at h
          exact h
        clear g1 g2 g3 hb hlt hj h0 hn1 HS HG0 H8
        obtain ⟨m, hm⟩ : ∃ m, Hid (m = wr.heap.size) := ⟨_, Eq.refl _⟩
        have HX0 : Hid (SqMk w (wr.alloc (unO ⟨2, (j : Int) + 1, 0, 0, 0, 0⟩)) pa gm S o ∧ (wr.alloc (unO ⟨2, (j : Int) + 1, 0, 0, 0, 0⟩)).heap[m]? = some (unO ⟨2, (j : Int) + 1, 0, 0, 0, 0⟩)) := ⟨HSq.out.touch ((Touch.refl _ _).alloc _), by rw [hm.out]; exact heap_alloc_new _ _⟩
        have HMs' : Hid (w.heap.size ≤ m) := by rw [hm.out]; exact HMs.out
        go_wp2_with fail
        rw [← hm.out]
        refine (HAm.out _).mono ?_
        rintro e X1 ⟨rfl, t1⟩
        have HX1 : Hid (SqMk w X1 pa gm S o ∧ X1.heap[m]? = some (unO ⟨2, (j : Int) + 1, 0, 0, 0, 0⟩)) := ⟨HX0.out.1.touch t1, heap_keep t1 HX0.out.2⟩
        clear t1 HX0 HAm ewm
        obtain ⟨-, -, p2, p3, -, -⟩ := unO_cells HX1.out.2
        have z2 : X1.frozen? ⟨m, 2, none⟩ = false := free_of_block HX1.out.2
        have z3 : X1.frozen? ⟨m, 3, none⟩ = false := free_of_block HX1.out.2
        have s3 := heap_setCell_same X1 m 2 (.int .u64 1) HX1.out.2
        have p3' : (X1.setCell ⟨m, 2, none⟩ (.int .u64 1)).cell? ⟨m, 3, none⟩ = some (.int .u64 0) := by rw [cell_of_block s3]; rfl
        have z3' : (X1.setCell ⟨m, 2, none⟩ (.int .u64 1)).frozen? ⟨m, 3, none⟩ = false := free_of_block s3
        have HX2 : Hid (SqMk w ((X1.setCell ⟨m, 2, none⟩ (.int .u64 1)).setCell ⟨m, 3, none⟩ (.int .u64 (j : Int))) pa gm S o ∧ ((X1.setCell ⟨m, 2, none⟩ (.int .u64 1)).setCell ⟨m, 3, none⟩ (.int .u64 (j : Int))).heap[m]? = some (unO ⟨2, (j : Int) + 1, 1, (j : Int), 0, 0⟩)) := ⟨HX1.out.1.at HX1.out.2 HMs'.out _ _ 2 3, gr_set2 HX1.out.2 1 (j : Int)⟩
        clear s3
        obtain ⟨q0, q1, q2, q3, q4, q5⟩ := unO_cells HX2.out.2
        go_wp2_with fail
        clear p2 p3 z2 z3 p3' z3'
        refine (HIns.out _ HX2.out.1).mono ?_
        rintro e X5 ⟨rfl, h5⟩
        have H5 : Hid (SqMk w X5 pa gm (S.run (grU n j) 1) o) := h5
        clear h5 HIns HX2 q0 q1 q2 q3 q4 q5
        have hm0 : Hid (n + 1 - (j + 1) < n + 1 - j ∧ j + 1 ≤ n + 1) := by rw [Hid]; have := HLe.out; omega
        go_wp2_with fail
        go_roundw
        case rel => exact ⟨j + 1, by go_num, hm0.out.2, _, HNx.out, H5.out⟩
        case measure => simp only [intOf]; have := hm0.out; omega
    · have hn1 : j < n := by have := HN.out; omega
      have hj0 : j = 0 := by omega
      have hi0 : u10 = .int .i64 0 := by rw [hi10, hj0]; rfl
      subst hj0
      clear hi10 h0
      subst hi0
      have hb := HN.out
      have ejw : IntKind.u64.wrap 1 = 1 := by rw [IntKind.wrap_u64]; omega
      have ejm : 1 < 9223372036854775808 := by omega
      have hle : (0 : Int) ≤ (n : Int) := by omega
      have hleN : 0 ≤ n := hlt
      have HLe : Hid (0 ≤ n) := hlt
      obtain ⟨g1, g2, g3⟩ := HS.out.1.step hlt (by omega)
      have HNx : Hid (GI (S.run (grU n 0) 1) n 1) := g3
      have HIns : Hid (∀ W, SqMk w W pa gm S o → Calls Tryz.prog 11 #[.pointer (some ⟨pa, 0, none⟩), .agg #[.int .u64 2, .int .u64 1, .int .u64 0, .int .u64 0, .int .u64 1, .int .u64 1]] W fun e w' => e = .returned (.bool true) ∧ SqMk w w' pa gm (S.run (grU n 0) 1) o) := fun W hW => by
        have h := hW.ins (grU n 0) g1 HS.out.1.size (by omega)
        rw [g2] at h
        have e : grU n 0 = ⟨2, 1, 0, 0, 1, 1⟩ := by unfold grU; simp [hn1]
        simp only [e] at h ⊢
        exact h
      have HSq : Hid (SqMk w wr pa gm S o) := HS.out.2
      have HMs : Hid (w.heap.size ≤ wr.heap.size) := HSq.out.2.2.2.size
      have d0 : True := trivial
      have d1 : (0 : Int) < (n : Int) := by omega
      have d1N : 0 < n := hn1
      have HAj : Hid (∀ W, Calls Tryz.prog 8 #[.int .i64 (0 : Int)] W fun e w' => e = .returned (.agg #[.int .u64 1, .int .u64 1]) ∧ Touch (fun _ => False) W w') := fun W => HAt.out 0 W (by omega)
      clear g1 g2 g3 hb hlt hj hn1 HS HG0 H8
      obtain ⟨m, hm⟩ : ∃ m, Hid (m = wr.heap.size) := ⟨_, Eq.refl _⟩
      have HX0 : Hid (SqMk w (wr.alloc (unO ⟨2, 1, 0, 0, 0, 0⟩)) pa gm S o ∧ (wr.alloc (unO ⟨2, 1, 0, 0, 0, 0⟩)).heap[m]? = some (unO ⟨2, 1, 0, 0, 0, 0⟩)) := ⟨HSq.out.touch ((Touch.refl _ _).alloc _), by rw [hm.out]; exact heap_alloc_new _ _⟩
      have HMs' : Hid (w.heap.size ≤ m) := by rw [hm.out]; exact HMs.out
      go_wp2_with fail
      rw [← hm.out]
      refine (HAj.out _).mono ?_
      rintro e X3 ⟨rfl, t3⟩
      have HX3 : Hid (SqMk w X3 pa gm S o ∧ X3.heap[m]? = some (unO ⟨2, 1, 0, 0, 0, 0⟩)) := ⟨HX0.out.1.touch t3, heap_keep t3 HX0.out.2⟩
      clear t3 HX0 HAj
      obtain ⟨-, -, -, -, p4, p5⟩ := unO_cells HX3.out.2
      have z4 : X3.frozen? ⟨m, 4, none⟩ = false := free_of_block HX3.out.2
      have z5 : X3.frozen? ⟨m, 5, none⟩ = false := free_of_block HX3.out.2
      have s5 := heap_setCell_same X3 m 4 (.int .u64 1) HX3.out.2
      have p5' : (X3.setCell ⟨m, 4, none⟩ (.int .u64 1)).cell? ⟨m, 5, none⟩ = some (.int .u64 0) := by rw [cell_of_block s5]; rfl
      have z5' : (X3.setCell ⟨m, 4, none⟩ (.int .u64 1)).frozen? ⟨m, 5, none⟩ = false := free_of_block s5
      have HX4 : Hid (SqMk w ((X3.setCell ⟨m, 4, none⟩ (.int .u64 1)).setCell ⟨m, 5, none⟩ (.int .u64 1)) pa gm S o ∧ ((X3.setCell ⟨m, 4, none⟩ (.int .u64 1)).setCell ⟨m, 5, none⟩ (.int .u64 1)).heap[m]? = some (unO ⟨2, 1, 0, 0, 1, 1⟩)) := ⟨HX3.out.1.at HX3.out.2 HMs'.out _ _ 4 5, gr_set4 HX3.out.2 1 1⟩
      clear s5
      obtain ⟨q0, q1, q2, q3, q4, q5⟩ := unO_cells HX4.out.2
      go_wp2_with fail
      clear p4 p5 z4 z5 p5' z5'
      refine (HIns.out _ HX4.out.1).mono ?_
      rintro e X5 ⟨rfl, h5⟩
      have H5 : Hid (SqMk w X5 pa gm (S.run (grU n 0) 1) o) := h5
      clear h5 HIns HX4 q0 q1 q2 q3 q4 q5
      have hm0 : Hid (n + 1 - 1 < n + 1 ∧ 1 ≤ n + 1) := by rw [Hid]; have := HLe.out; omega
      go_wp2_with fail
      go_roundw
      case rel => exact ⟨1, by go_num, hm0.out.2, _, HNx.out, H5.out⟩
      case measure => simp only [intOf]; have := hm0.out; omega
end Go.Proofs.YtnilikomoapcaaaGreat
