/- The document's runs: Diff. -/
import Derived.Test.YtijkekkjiboomaaGreatDoorPart26
import Derived.Deep.CutBlock
namespace Go.Proofs.YtijkekkjiboomaaGreatDoor
open Go.RowKit Go.Maps
set_option linter.unusedVariables false
set_option linter.unusedSimpArgs false
set_option maxRecDepth 100000

/-- How many both begin with. -/
def lcpR : List Rn → List Rn → Nat
  | a :: x, b :: y => if sameR a b = true then lcpR x y + 1 else 0
  | _, _ => 0
theorem lcpR_step {X Y : List Rn} {i : Nat} (h1 : i < X.length) (h2 : i < Y.length) : lcpR (X.drop i) (Y.drop i) = if sameR X[i] Y[i] = true then lcpR (X.drop (i + 1)) (Y.drop (i + 1)) + 1 else 0 := by
  rw [List.drop_eq_getElem_cons h1, List.drop_eq_getElem_cons h2]; rfl
theorem lcpR_end {X Y : List Rn} {i : Nat} (h : X.length ≤ i ∨ Y.length ≤ i) : lcpR (X.drop i) (Y.drop i) = 0 := by
  rcases h with h | h
  · rw [List.drop_of_length_le h]; cases Y.drop i <;> rfl
  · rw [List.drop_of_length_le h]; cases X.drop i <;> rfl
theorem lcpR_le : ∀ X Y : List Rn, lcpR X Y ≤ X.length ∧ lcpR X Y ≤ Y.length
  | a :: x, b :: y => by
    have := lcpR_le x y
    unfold lcpR
    split
    · simp; omega
    · simp
  | [], Y => by cases Y <;> simp [lcpR]
  | a :: x, [] => by simp [lcpR]
/-- The end's part. -/
def endR (X Y : List Rn) (at_ : Nat) : Nat := lcpR (X.drop at_).reverse (Y.drop at_).reverse
theorem endR_le (X Y : List Rn) (at_ : Nat) : endR X Y at_ ≤ X.length - at_ ∧ endR X Y at_ ≤ Y.length - at_ := by
  have := lcpR_le (X.drop at_).reverse (Y.drop at_).reverse
  simp only [List.length_reverse, List.length_drop] at this
  exact this
theorem rev_get {X : List Rn} {a e : Nat} (h : e < X.length - a) : (X.drop a).reverse[e]'(by simp; omega) = X[X.length - 1 - e]'(by omega) := by
  rw [List.getElem_reverse, List.getElem_drop]
  congr 1
  simp only [List.length_drop]
  omega
set_option maxHeartbeats 32000000 in
theorem qdiff_any {w : World} {va vb : Value} {A B : List Rn} (ha : SlRn w va A) (hb : SlRn w vb B) (oa : OkL A) (ob : OkL B) (ta : tot A ≤ 1048576) (tb : tot B ≤ 1048576) (ua : tot (unitsR A) ≤ 1048576) (ub : tot (unitsR B) ≤ 1048576) :
    Calls Tryz.prog 26 #[va, vb] w fun e w' => ∃ v', e = .returned (.tuple #[.int .i64 (lcpR (unitsR A) (unitsR B) : Int), .int .i64 (((unitsR A).length - lcpR (unitsR A) (unitsR B) - endR (unitsR A) (unitsR B) (lcpR (unitsR A) (unitsR B)) : Nat) : Int), v']) ∧ SlRn w' v' (cleanR (((unitsR B).take ((unitsR B).length - endR (unitsR A) (unitsR B) (lcpR (unitsR A) (unitsR B)))).drop (lcpR (unitsR A) (unitsR B)))) ∧ Touch (fun _ => False) w w' := by
  have HUa : Hid (Calls Tryz.prog 17 #[va] w fun e w' => ∃ ao c, e = .returned (.slice ao (unitsR A).length c) ∧ Nu w (unitsR A) (.slice ao (unitsR A).length c) w') := qunits_any ha ta
  have HUb : Hid (∀ W, Touch (fun _ => False) w W → Calls Tryz.prog 17 #[vb] W fun e w' => ∃ ao c, e = .returned (.slice ao (unitsR B).length c) ∧ Nu W (unitsR B) (.slice ao (unitsR B).length c) w') := fun W t => qunits_any (hb.touch t) tb
  have HDa : Hid (∀ r ∈ unitsR A, r.Dbl) := fun r hr => ((unitsR_ones oa).1 r hr).1.2
  have HDb : Hid (∀ r ∈ unitsR B, r.Dbl) := fun r hr => ((unitsR_ones ob).1 r hr).1.2
  have hXl : (unitsR A).length ≤ 1048576 := by have := tot_len (unitsR A); omega
  have hYl : (unitsR B).length ≤ 1048576 := by have := tot_len (unitsR B); omega
  have HTb : Hid (tot (unitsR B) ≤ 1048576) := ub
  obtain ⟨a0, c0, rfl, -, -, -⟩ := ha.shape
  obtain ⟨a9, c9, rfl, -, -, -⟩ := hb.shape
  clear ha hb oa ob ta tb ua ub
  generalize unitsR A = X at *
  generalize unitsR B = Y at *
  obtain ⟨at_, hat⟩ : ∃ n, Hid (n = lcpR X Y) := ⟨lcpR X Y, Eq.refl _⟩
  obtain ⟨en, hen⟩ : ∃ n, Hid (n = endR X Y at_) := ⟨endR X Y at_, Eq.refl _⟩
  have ht1 : at_ ≤ X.length ∧ at_ ≤ Y.length := by rw [hat.out]; exact lcpR_le X Y
  have ht2 : en ≤ X.length - at_ ∧ en ≤ Y.length - at_ := by rw [hen.out]; exact endR_le X Y at_
  rw [← hat.out, ← hen.out]
  obtain ⟨R, hR⟩ : ∃ R, Hid (R = cleanR ((Y.take (Y.length - en)).drop at_)) := ⟨cleanR ((Y.take (Y.length - en)).drop at_), Eq.refl _⟩
  rw [← hR.out]
  obtain ⟨rn, hrn⟩ : ∃ n, n = X.length - at_ - en := ⟨_, rfl⟩
  rw [← hrn]
  have HE : Hid (en = lcpR (X.drop at_).reverse (Y.drop at_).reverse) := hen.out
  clear hen
  go_enter Tryz.func26, Tryz.ntmps26
  go_wp2_with fail
  refine HUa.out.mono ?_
  rintro e W1 ⟨xo, xc, rfl, hNa⟩
  have HNa : Hid (Nu w X (.slice xo X.length xc) W1) := hNa
  clear hNa HUa
  go_wp2_with fail
  refine (HUb.out _ HNa.out.t).mono ?_
  rintro e E ⟨yo, yc, rfl, hNb⟩
  have HX0 : Hid (SlRn E (.slice xo X.length xc) X ∧ SlRn E (.slice yo Y.length yc) Y ∧ Touch (fun _ => False) w E) := ⟨HNa.out.sl.touch hNb.t, hNb.sl, HNa.out.t.trans hNb.t⟩
  clear hNb HUb HNa
  obtain ⟨⟨ra, hra, hma⟩, ⟨rb, hrb, hmb⟩, hTE⟩ := HX0.out
  have HTE : Hid (Touch (fun _ => False) w E) := hTE
  have hla := hma.len
  have hlb := hmb.len
  have HLA : Hid (ra.length = X.length ∧ rb.length = Y.length) := ⟨hla, hlb⟩
  have HA : Hid (ra ≠ [] → _) := hra.at
  have HB : Hid (rb ≠ [] → _) := hrb.at
  have HC : Hid (∀ i j (h1 : i < ra.length) (h2 : i < X.length) (h3 : j < rb.length) (h4 : j < Y.length) W, Touch (fun _ => False) E W → Calls Tryz.prog 53 #[ra[i].val, rb[j].val] W fun e w' => e = .returned (.bool (sameR X[i] Y[j])) ∧ Touch (fun _ => False) W w') := fun i j h1 h2 h3 h4 W t => qrun_any ((hma.get i h1 h2).touch t) ((hmb.get j h3 h4).touch t) (HDa.out _ (List.getElem_mem h2)) (HDb.out _ (List.getElem_mem h4))
  have HSY : Hid (SlRn E (.slice yo Y.length yc) Y) := HX0.out.2.1
  clear hra hrb hma hmb hTE hla hlb HX0 HDa
  go_upto_block 0 with fail
  go_cut [9] from 15 to 37 (fun t wx => t = .int .i64 (at_ : Int) ∧ Hid (Touch (fun _ => False) E wx))
  case first =>
    go_wp2_with fail
    go_loopg [9] X.length (fun gk s9 wr => ∃ (i : Nat), i + gk = X.length ∧ s9 = .int .i64 (i : Int) ∧ Hid (Touch (fun _ => False) E wr ∧ i + lcpR (X.drop i) (Y.drop i) = at_))
    case atStart => exact ⟨0, by omega, rfl, Touch.refl _ _, by rw [hat.out]; simp⟩
    case round =>
      obtain ⟨i, hig, rfl, HI⟩ := hrel
      by_cases hin : i < X.length ∧ i < Y.length
      · obtain ⟨h2, h4⟩ := hin
        have hi0 : (0 : Int) ≤ (i : Int) := by omega
        have hiA : (i : Int) < (X.length : Int) := by omega
        have hiB : (i : Int) < (Y.length : Int) := by omega
        have hdA : decide ((i : Int) < (X.length : Int)) = true := by rw [decide_eq_true_eq]; omega
        have hdB : decide ((i : Int) < (Y.length : Int)) = true := by rw [decide_eq_true_eq]; omega
        have h1 : i < ra.length := by have := HLA.out.1; omega
        have h3 : i < rb.length := by have := HLA.out.2; omega
        have hiw1 : IntKind.i64.wrap ((i : Int) + 1) = (i : Int) + 1 := by rw [IntKind.wrap_i64]; omega
        have HC1 : Hid _ := fun W t => (HC.out i i h1 h2 h3 h4 W t)
        have hdr := lcpR_step h2 h4
        obtain ⟨ba, fa, hxo, -, hca⟩ := HA.out (by intro h; rw [h] at h1; simp at h1)
        obtain ⟨bb, fb, hyo, -, hcb⟩ := HB.out (by intro h; rw [h] at h3; simp at h3)
        subst hxo
        subst hyo
        have HX : Hid (∀ W, Touch (fun _ => False) E W → _ ∧ _) := fun W (t : Touch (fun _ => False) E W) => And.intro (hca W t i h1) (hcb W t i h3)
        have T0 : Hid (Touch (fun _ => False) E wr) := HI.out.1
        have HNx : Hid (sameR X[i] Y[i] = true → (i + 1) + lcpR (X.drop (i + 1)) (Y.drop (i + 1)) = at_) := fun h => by
          have := HI.out.2; rw [hdr, if_pos h] at this; omega
        have HNo : Hid (sameR X[i] Y[i] = false → i = at_) := fun h => by
          have := HI.out.2; rw [hdr, if_neg (by rw [h]; decide)] at this; omega
        clear hca hcb hdr HI HA HB HC
        generalize sameR X[i] Y[i] = u at *
        generalize ra[i] = xa at *
        generalize rb[i] = xb at *
        obtain ⟨atx, aem, avk, avn, avf, avs, ⟨ama, amn, amc⟩⟩ := xa
        obtain ⟨btx, bem, bvk, bvn, bvf, bvs, ⟨bma, bmn, bmc⟩⟩ := xb
        simp only at HX HC1
        have S0 := HX.out _ T0.out.drew
        go_upto_region 3 with fail
        go_region_held3 (fun W => (W.cell? ⟨ba, fa + i * 7, none⟩ = some (.string atx) ∧ W.cell? ⟨ba, fa + i * 7 + 1, none⟩ = some (.bool aem) ∧ W.cell? ⟨ba, fa + i * 7 + 2, none⟩ = some (.int .i64 avk) ∧ W.cell? ⟨ba, fa + i * 7 + 3, none⟩ = some (.int .i64 avn) ∧ W.cell? ⟨ba, fa + i * 7 + 4, none⟩ = some (.float .f64 avf) ∧ W.cell? ⟨ba, fa + i * 7 + 5, none⟩ = some (.string avs) ∧ W.cell? ⟨ba, fa + i * 7 + 6, none⟩ = some (.slice ama amn amc)) ∧ (W.cell? ⟨bb, fb + i * 7, none⟩ = some (.string btx) ∧ W.cell? ⟨bb, fb + i * 7 + 1, none⟩ = some (.bool bem) ∧ W.cell? ⟨bb, fb + i * 7 + 2, none⟩ = some (.int .i64 bvk) ∧ W.cell? ⟨bb, fb + i * 7 + 3, none⟩ = some (.int .i64 bvn) ∧ W.cell? ⟨bb, fb + i * 7 + 4, none⟩ = some (.float .f64 bvf) ∧ W.cell? ⟨bb, fb + i * 7 + 5, none⟩ = some (.string bvs) ∧ W.cell? ⟨bb, fb + i * 7 + 6, none⟩ = some (.slice bma bmn bmc))) (first | assumption)
          (first
            | (go_at_call 53; (with_reducible refine (HC1.out _ T0.out.drew).mono ?_); rintro e w1 ⟨rfl, t1⟩; have S1 := HX.out w1 (T0.out.drew.trans t1); have T1 : Hid (Touch (fun _ => False) E w1) := T0.out.drew.trans t1; clear t1))
        all_goals clear S0
        all_goals clear S1 T0 HX HC1
        all_goals cases u
        · have HF : Hid (i = at_) := HNo.out rfl
          go_wp2_with fail
          go_meet
          case rel => exact ⟨by rw [HF.out], T1.out⟩
        · have HF : Hid ((i + 1) + lcpR (X.drop (i + 1)) (Y.drop (i + 1)) = at_) := HNx.out rfl
          go_wp2_with fail
          go_roundg (X.length - (i + 1))
          case measure => omega
          case rel => exact ⟨i + 1, by omega, by go_num, T1.out, HF.out⟩
      · have HF : Hid (i = at_) := by
          have h1 := HI.out.2
          rw [lcpR_end (by omega)] at h1
          exact h1
        have HT : Hid (Touch (fun _ => False) E wr) := HI.out.1
        clear HA HB HC HI
        by_cases hA : i < X.length
        · have hB : ¬ i < Y.length := by omega
          have hi1 : (i : Int) < (X.length : Int) := by omega
          have hi2 : ¬ (i : Int) < (Y.length : Int) := by omega
          have hdA : decide ((i : Int) < (X.length : Int)) = true := by rw [decide_eq_true_eq]; omega
          have hdB : decide ((i : Int) < (Y.length : Int)) = false := by rw [decide_eq_false_iff_not]; omega
          clear hin
          go_upto_region 3 with fail
          go_quiet (fail)
          have HT1 : Hid (Touch (fun _ => False) E (wr.drewN nq)) := HT.out.drewN nq
          clear HT
          go_wp2_with fail
          go_meet
          case rel => exact ⟨by rw [HF.out], HT1.out⟩
        · have hdA : decide ((i : Int) < (X.length : Int)) = false := by rw [decide_eq_false_iff_not]; omega
          go_upto_region 3 with fail
          go_quiet (fail)
          have HT1 : Hid (Touch (fun _ => False) E (wr.drewN nq)) := HT.out.drewN nq
          clear HT
          go_wp2_with fail
          go_meet
          case rel => exact ⟨by rw [HF.out], HT1.out⟩
  case rest =>
    obtain ⟨rfl, HTc⟩ := hcut
    obtain ⟨nx, hnx⟩ : ∃ n : Nat, n = X.length - at_ := ⟨_, rfl⟩
    obtain ⟨ny, hny⟩ : ∃ n : Nat, n = Y.length - at_ := ⟨_, rfl⟩
    obtain ⟨x1, hx1⟩ : ∃ n : Int, n = (X.length : Int) - 1 := ⟨_, rfl⟩
    obtain ⟨y1, hy1⟩ : ∃ n : Int, n = (Y.length : Int) - 1 := ⟨_, rfl⟩
    obtain ⟨ty, hty⟩ : ∃ n : Nat, n = Y.length - en := ⟨_, rfl⟩
    have n1 : IntKind.i64.wrap ((X.length : Int) - (at_ : Int)) = (nx : Int) := by rw [IntKind.wrap_i64] <;> omega
    have n2 : IntKind.i64.wrap ((Y.length : Int) - (at_ : Int)) = (ny : Int) := by rw [IntKind.wrap_i64] <;> omega
    have n3 : IntKind.i64.wrap ((X.length : Int) - 1) = x1 := by rw [IntKind.wrap_i64] <;> omega
    have n4 : IntKind.i64.wrap ((Y.length : Int) - 1) = y1 := by rw [IntKind.wrap_i64] <;> omega
    have n5 : IntKind.i64.wrap ((nx : Int) - (en : Int)) = (rn : Int) := by rw [IntKind.wrap_i64] <;> omega
    have n6 : IntKind.i64.wrap ((Y.length : Int) - (en : Int)) = (ty : Int) := by rw [IntKind.wrap_i64] <;> omega
    have HNm : Hid (nx = X.length - at_ ∧ ny = Y.length - at_ ∧ x1 = (X.length : Int) - 1 ∧ y1 = (Y.length : Int) - 1 ∧ ty = Y.length - en) := ⟨hnx, hny, hx1, hy1, hty⟩
    have HR : Hid (R = cleanR ((Y.take ty).drop at_)) := by rw [hty]; exact hR.out
    have HBd : Hid (at_ ≤ ty ∧ ty ≤ Y.length) := by show _ ∧ _; omega
    have HLX : Hid ((X.drop at_).reverse.length = nx ∧ (Y.drop at_).reverse.length = ny) := by rw [hnx, hny]; exact ⟨by simp, by simp⟩
    have HAt : Hid ((at_ ≤ X.length ∧ at_ ≤ Y.length) ∧ (X.length ≤ 1048576 ∧ Y.length ≤ 1048576)) := ⟨ht1, hXl, hYl⟩
    clear hnx hny hx1 hy1 hty hrn hR hat ht1 ht2
    go_upto_block 2 with fail
    go_cut [10] from 38 to 72 (fun t wx => t = .int .i64 (en : Int) ∧ Hid (Touch (fun _ => False) E wx))
    case first =>
      go_wp2_with fail
      go_loopg [10] nx (fun gk s10 wr => ∃ (i : Nat), i + gk = nx ∧ s10 = .int .i64 (i : Int) ∧ Hid (Touch (fun _ => False) E wr ∧ i + lcpR ((X.drop at_).reverse.drop i) ((Y.drop at_).reverse.drop i) = en))
      case atStart => exact ⟨0, by omega, rfl, HTc.out, by rw [HE.out]; simp⟩
      case round =>
        obtain ⟨i, hig, rfl, HI⟩ := hrel
        by_cases hin : i < nx ∧ i < ny
        · obtain ⟨h2, h4⟩ := hin
          have hNm := HNm.out
          have hAt := HAt.out
          obtain ⟨px, hpx⟩ : ∃ n : Nat, n = X.length - 1 - i := ⟨_, rfl⟩
          obtain ⟨py, hpy⟩ : ∃ n : Nat, n = Y.length - 1 - i := ⟨_, rfl⟩
          have w1 : IntKind.i64.wrap (x1 - (i : Int)) = (px : Int) := by rw [IntKind.wrap_i64] <;> omega
          have w2 : IntKind.i64.wrap (y1 - (i : Int)) = (py : Int) := by rw [IntKind.wrap_i64] <;> omega
          have hpx0 : (0 : Int) ≤ (px : Int) := by omega
          have hpy0 : (0 : Int) ≤ (py : Int) := by omega
          have hpx1 : (px : Int) < (X.length : Int) := by omega
          have hpy1 : (py : Int) < (Y.length : Int) := by omega
          have hdA : decide ((i : Int) < (nx : Int)) = true := by rw [decide_eq_true_eq]; omega
          have hdB : decide ((i : Int) < (ny : Int)) = true := by rw [decide_eq_true_eq]; omega
          have hiA : (i : Int) < (nx : Int) := by omega
          have hiB : (i : Int) < (ny : Int) := by omega
          have k2 : px < X.length := by omega
          have k4 : py < Y.length := by omega
          have h1 : px < ra.length := by have := HLA.out.1; omega
          have h3 : py < rb.length := by have := HLA.out.2; omega
          have hiw1 : IntKind.i64.wrap ((i : Int) + 1) = (i : Int) + 1 := by rw [IntKind.wrap_i64]; omega
          have HC1 : Hid _ := fun W t => (HC.out px py h1 k2 h3 k4 W t)
          have hdr := lcpR_step (X := (X.drop at_).reverse) (Y := (Y.drop at_).reverse) (i := i) (by rw [HLX.out.1]; exact h2) (by rw [HLX.out.2]; exact h4)
          rw [rev_get (by omega), rev_get (by omega)] at hdr
          simp only [← hpx, ← hpy] at hdr
          obtain ⟨ba, fa, hxo, -, hca⟩ := HA.out (by intro h; rw [h] at h1; simp at h1)
          obtain ⟨bb, fb, hyo, -, hcb⟩ := HB.out (by intro h; rw [h] at h3; simp at h3)
          subst hxo
          subst hyo
          have HX : Hid (∀ W, Touch (fun _ => False) E W → _ ∧ _) := fun W (t : Touch (fun _ => False) E W) => And.intro (hca W t px h1) (hcb W t py h3)
          have T0 : Hid (Touch (fun _ => False) E wr) := HI.out.1
          have HNx : Hid (sameR X[px] Y[py] = true → (i + 1) + lcpR ((X.drop at_).reverse.drop (i + 1)) ((Y.drop at_).reverse.drop (i + 1)) = en) := fun h => by
            have := HI.out.2; rw [hdr, if_pos h] at this; omega
          have HNo : Hid (sameR X[px] Y[py] = false → i = en) := fun h => by
            have := HI.out.2; rw [hdr, if_neg (by rw [h]; decide)] at this; omega
          clear hca hcb hdr HI HA HB HC hNm hAt hpx hpy
          generalize sameR X[px] Y[py] = u at *
          generalize ra[px] = xa at *
          generalize rb[py] = xb at *
          obtain ⟨atx, aem, avk, avn, avf, avs, ⟨ama, amn, amc⟩⟩ := xa
          obtain ⟨btx, bem, bvk, bvn, bvf, bvs, ⟨bma, bmn, bmc⟩⟩ := xb
          simp only at HX HC1
          have S0 := HX.out _ T0.out.drew
          go_upto_region 6 with fail
          go_region_held3 (fun W => (W.cell? ⟨ba, fa + px * 7, none⟩ = some (.string atx) ∧ W.cell? ⟨ba, fa + px * 7 + 1, none⟩ = some (.bool aem) ∧ W.cell? ⟨ba, fa + px * 7 + 2, none⟩ = some (.int .i64 avk) ∧ W.cell? ⟨ba, fa + px * 7 + 3, none⟩ = some (.int .i64 avn) ∧ W.cell? ⟨ba, fa + px * 7 + 4, none⟩ = some (.float .f64 avf) ∧ W.cell? ⟨ba, fa + px * 7 + 5, none⟩ = some (.string avs) ∧ W.cell? ⟨ba, fa + px * 7 + 6, none⟩ = some (.slice ama amn amc)) ∧ (W.cell? ⟨bb, fb + py * 7, none⟩ = some (.string btx) ∧ W.cell? ⟨bb, fb + py * 7 + 1, none⟩ = some (.bool bem) ∧ W.cell? ⟨bb, fb + py * 7 + 2, none⟩ = some (.int .i64 bvk) ∧ W.cell? ⟨bb, fb + py * 7 + 3, none⟩ = some (.int .i64 bvn) ∧ W.cell? ⟨bb, fb + py * 7 + 4, none⟩ = some (.float .f64 bvf) ∧ W.cell? ⟨bb, fb + py * 7 + 5, none⟩ = some (.string bvs) ∧ W.cell? ⟨bb, fb + py * 7 + 6, none⟩ = some (.slice bma bmn bmc))) (first | assumption)
            (first
              | (go_at_call 53; (with_reducible refine (HC1.out _ T0.out.drew).mono ?_); rintro e w1 ⟨rfl, t1⟩; have S1 := HX.out w1 (T0.out.drew.trans t1); have T1 : Hid (Touch (fun _ => False) E w1) := T0.out.drew.trans t1; clear t1))
          all_goals clear S0
          all_goals clear S1 T0 HX HC1
          all_goals cases u
          · have HF : Hid (i = en) := HNo.out rfl
            go_wp2_with fail
            go_meet
            case rel => exact ⟨by rw [HF.out], T1.out⟩
          · have HF : Hid ((i + 1) + lcpR ((X.drop at_).reverse.drop (i + 1)) ((Y.drop at_).reverse.drop (i + 1)) = en) := HNx.out rfl
            go_wp2_with fail
            go_roundg (nx - (i + 1))
            case measure => omega
            case rel => exact ⟨i + 1, by omega, by go_num, T1.out, HF.out⟩
        · have HF : Hid (i = en) := by
            have h1 := HI.out.2
            rw [lcpR_end (by rw [HLX.out.1, HLX.out.2]; omega)] at h1
            exact h1
          have HT : Hid (Touch (fun _ => False) E wr) := HI.out.1
          clear HA HB HC HI HNm
          by_cases hA : i < nx
          · have hB : ¬ i < ny := by omega
            have hi1 : (i : Int) < (nx : Int) := by omega
            have hi2 : ¬ (i : Int) < (ny : Int) := by omega
            have hdA : decide ((i : Int) < (nx : Int)) = true := by rw [decide_eq_true_eq]; omega
            have hdB : decide ((i : Int) < (ny : Int)) = false := by rw [decide_eq_false_iff_not]; omega
            clear hin
            go_upto_region 6 with fail
            go_quiet (fail)
            have HT1 : Hid (Touch (fun _ => False) E (wr.drewN nq)) := HT.out.drewN nq
            clear HT
            go_wp2_with fail
            go_meet
            case rel => exact ⟨by rw [HF.out], HT1.out⟩
          · have hdA : decide ((i : Int) < (nx : Int)) = false := by rw [decide_eq_false_iff_not]; omega
            clear hin
            go_upto_region 6 with fail
            go_quiet (fail)
            have HT1 : Hid (Touch (fun _ => False) E (wr.drewN nq)) := HT.out.drewN nq
            clear HT
            go_wp2_with fail
            go_meet
            case rel => exact ⟨by rw [HF.out], HT1.out⟩
    case rest =>
      obtain ⟨rfl, HTd⟩ := hcut
      have hbd := HBd.out
      obtain ⟨k1, k2⟩ := (HSY.out.touch HTd.out).cut hbd.1 hbd.2
      have hsl := fun W => sliceW_at yo Y.length yc at_ ty hbd.1 k2 W
      have hcl := qclean_any k1 (fun r hr => HDb.out r (List.mem_of_mem_take (List.mem_of_mem_drop hr))) (Nat.le_trans (tot_drop _ _) (Nat.le_trans (tot_take _ _) HTb.out))
      rw [← HR.out] at hcl
      have HT : Hid (Touch (fun _ => False) w _) := HTE.out.trans HTd.out
      generalize (if yc = at_ then yo else yo.map (·.add (at_ * 7))) = ap at *
      have HCl : Hid (Calls Tryz.prog 20 #[.slice ap (ty - at_) (yc - at_)] _ fun e w' => ∃ v', e = .returned v' ∧ SlRn w' v' R ∧ Touch (fun _ => False) _ w') := hcl
      clear hcl k1 k2 hbd HSY HDb HTb HR HTE HTd HNm HBd HLX HAt HA HB HC HE HLA hXl hYl
      go_wp2_with fail
      refine HCl.out.mono ?_
      rintro e W5 ⟨v5, rfl, h5, t5⟩
      have HF : Hid (SlRn W5 v5 R ∧ Touch (fun _ => False) w W5) := ⟨h5, HT.out.trans t5⟩
      clear h5 t5 HCl HT
      go_wp2_with fail
      go_ret3
      exact ⟨v5, rfl, HF.out.1, HF.out.2⟩
end Go.Proofs.YtijkekkjiboomaaGreatDoor
