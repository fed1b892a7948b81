/- quirelaw9.SeqPlays: units stand in just the document's order, step by step. -/
import Derived.Test.YtnbphdmpbjahhaaOwn4
import Derived.Test.YtnbphdmpbjahhaaPart34
import Derived.Deep.CutBlock
namespace Go.Proofs.Ytnbphdmpbjahhaa
open Go.RowKit
set_option linter.unusedVariables false
set_option linter.unusedSimpArgs false
set_option maxRecDepth 100000

abbrev stO (s : StU) : Obj := .cells #[.int .i64 s.what, .int .i64 s.n, .int .u64 s.u.c, .int .u64 s.u.k, .int .u64 s.u.lc, .int .u64 s.u.lk, .int .u64 s.u.rc, .int .u64 s.u.rk] 37
theorem stO_cells {W : World} {m : Nat} {s : StU} (h : W.heap[m]? = some (stO s)) : W.cell? ⟨m, 0, none⟩ = some (.int .i64 s.what) ∧ W.cell? ⟨m, 1, none⟩ = some (.int .i64 s.n) ∧ W.cell? ⟨m, 2, none⟩ = some (.int .u64 s.u.c) ∧ W.cell? ⟨m, 3, none⟩ = some (.int .u64 s.u.k) ∧ W.cell? ⟨m, 4, none⟩ = some (.int .u64 s.u.lc) ∧ W.cell? ⟨m, 5, none⟩ = some (.int .u64 s.u.lk) ∧ W.cell? ⟨m, 6, none⟩ = some (.int .u64 s.u.rc) ∧ W.cell? ⟨m, 7, none⟩ = some (.int .u64 s.u.rk) :=
  ⟨by rw [cell_of_block h]; rfl, by rw [cell_of_block h]; rfl, by rw [cell_of_block h]; rfl, by rw [cell_of_block h]; rfl, by rw [cell_of_block h]; rfl, by rw [cell_of_block h]; rfl, by rw [cell_of_block h]; rfl, by rw [cell_of_block h]; rfl⟩
/-- What has a step in a box beside it. -/
def PlX (w W : World) (pa b : Nat) (S : SS) (r : RS) (X : Nat) (x : StU) : Prop := PlH w W pa b S r ∧ W.heap[X]? = some (stO x)
set_option maxHeartbeats 16000000 in
theorem seqPlays_any (w : World) (ao0 : Option Addr) (l : List StU) (n0 c0 : Nat) (hn0 : n0 = l.length) (hz0 : StepsU w ao0 l) (hf0 : ∀ s ∈ l, s.fits) (hc0 : n0 ≤ c0) (hm0 : c0 ≤ maxLen) :
    Calls Try.prog 3 #[.slice ao0 n0 c0] w fun e w' => e = .returned (.bool true) ∧ Touch (fun _ => False) w w' := by
  have HK : Hid (Calls Try.prog 9 #[] w fun e w' => e = .returned (.bool true) ∧ Touch (fun _ => False) w w') := known_any w
  have hx0 : (n0 : Int) ≤ 9223372036854775807 := by unfold maxLen at hm0; omega
  clear hm0 hc0
  by_cases h0 : 80 < n0
  · have g0 : (80 : Int) < (n0 : Int) := by omega
    clear h0 hz0 hf0
    go_enter Try.func3, Try.ntmps3
    go_wp2_with fail
    refine HK.out.mono ?_
    rintro e W1 ⟨rfl, t1⟩
    have HT1 : Hid (Touch (fun _ => False) w W1) := t1
    clear t1 HK
    go_wp2_with fail
    go_ret
    exact ⟨rfl, HT1.out⟩
  have g0 : ¬ (80 : Int) < (n0 : Int) := by omega
  have hnb : n0 ≤ 80 := by omega
  have HN : Hid (∀ W, Touch (fun _ => False) w W → Calls Try.prog 10 #[] W fun e w' => ∃ p B, e = .returned (.pointer (some ⟨p, 0, none⟩)) ∧ Sq1 w w' p B .new ∧ (∀ k, B.has k → W.heap.size ≤ k) ∧ Touch (fun _ => False) W w') := fun W t => Sq1.fresh w W t
  have HZ : Hid (StepsU w ao0 l ∧ (∀ s ∈ l, s.fits) ∧ n0 = l.length) := ⟨hz0, hf0, hn0⟩
  clear h0 hz0 hf0 hn0
  go_enter Try.func3, Try.ntmps3
  go_wp2_with fail
  refine HK.out.mono ?_
  rintro e W1 ⟨rfl, t1⟩
  have HT1 : Hid (Touch (fun _ => False) w W1) := t1
  clear t1 HK
  go_wp2_with fail
  refine (HN.out _ HT1.out).mono ?_
  rintro e W2 ⟨pa, A, rfl, a2, -, t2⟩
  have H2 : Hid (PlW w (W2.alloc (.cells #[.slice none 0 0, .slice none 0 0, .slice none 0 0] 30 (0, 0))) pa W2.heap.size .new .zero 0) := by
    refine ⟨⟨⟨A, a2.touch ((Touch.refl _ _).alloc _)⟩, RqAt.new W2, (HT1.out.trans t2).size, (HT1.out.trans t2).alloc _⟩, ⟨_, Corr.new⟩, ⟨by decide, by decide, by decide⟩⟩
  clear a2 t2 HN HT1
  go_upto_region 6 with fail
  obtain ⟨W3, hW3⟩ : ∃ X, Hid (X = W2.alloc (.cells #[.slice none 0 0, .slice none 0 0, .slice none 0 0] 30 (0, 0))) := ⟨_, Eq.refl _⟩
  rw [← hW3.out] at H2 ⊢
  clear hW3
  generalize W2.heap.size = b at *
  go_wp2_with fail
  go_loopw [3, 5] (fun s3 s5 wr => ∃ (j pa : Nat) (S : SS) (r : RS), s3 = .pointer (some ⟨pa, 0, none⟩) ∧ s5 = .int .i64 (j : Int) ∧ j ≤ n0 ∧ Hid (PlW w wr pa b S r (20 * j))) (fun _ s5 _ => (n0 - intOf s5).toNat)
  case atStart => exact ⟨0, pa, _, _, rfl, rfl, Nat.zero_le _, H2.out⟩
  case round =>
    obtain ⟨j, pa, S, r, rfl, rfl, hj, HJ⟩ := hrel
    clear H2
    obtain ⟨wq, hwq⟩ : ∃ wq, wq = wr := ⟨_, rfl⟩
    subst hwq
    by_cases hlt : j < n0
    rotate_left
    · have l0 : ¬ (j : Int) < (n0 : Int) := by omega
      have HS := HJ.out.same (by omega)
      clear HZ
      go_wp2_with fail
      refine HS.mono ?_
      rintro e W4 ⟨rfl, h4⟩
      have H4 : Hid (Touch (fun _ => False) w W4) := h4.h.t
      clear h4 HS HJ
      go_wp2_with fail
      go_ret
      exact ⟨rfl, H4.out⟩
    · have l0 : (j : Int) < (n0 : Int) := by omega
      have hlj : j < l.length := by have := HZ.out.2.2; omega
      obtain ⟨g, o, rfl, hcl⟩ := (HZ.out.1.touch HJ.out.h.t) j hlj
      have hft := HZ.out.2.1 l[j] (List.getElem_mem hlj)
      have k0 := hcl 0 _ rfl
      have k1 := hcl 1 _ rfl
      have k2 := hcl 2 _ rfl
      have k3 := hcl 3 _ rfl
      have k4 := hcl 4 _ rfl
      have k5 := hcl 5 _ rfl
      have k6 := hcl 6 _ rfl
      have k7 := hcl 7 _ rfl
      rw [Nat.add_zero] at k0
      clear hcl
      generalize l[j] = x at *
      have hj20 : 20 * j ≤ 1600 := by omega
      have hlr := HJ.out.len
      obtain ⟨sp, hco⟩ := HJ.out.c
      obtain ⟨Wx, hWx⟩ : ∃ X, Hid (X = wq.alloc (stO x)) := ⟨_, Eq.refl _⟩
      obtain ⟨X, hX⟩ : ∃ X, Hid (X = wq.heap.size) := ⟨_, Eq.refl _⟩
      have HPX : Hid (PlX w Wx pa b S r X x) := by
        rw [hWx.out, hX.out]
        exact ⟨HJ.out.h.touch ((Touch.refl _ _).alloc _), heap_alloc_new _ _⟩
      obtain ⟨what, nn, ⟨uc, uk, ulc, ulk, urc, urk⟩⟩ := x
      obtain ⟨x, hxe⟩ : ∃ x : StU, Hid (x = ⟨what, nn, ⟨uc, uk, ulc, ulk, urc, urk⟩⟩) := ⟨_, Eq.refl _⟩
      rw [← hxe.out] at HPX
      obtain ⟨hf1, hf2, hok⟩ := hft
      simp only at hf1 hf2 hok k0 k1 k2 k3 k4 k5 k6 k7
      have HCl : Hid (∀ W {pa S r}, Hid (PlX w W pa b S r X x) → W.cell? ⟨X, 2, none⟩ = some (.int .u64 uc) ∧ W.cell? ⟨X, 3, none⟩ = some (.int .u64 uk) ∧ W.cell? ⟨X, 4, none⟩ = some (.int .u64 ulc) ∧ W.cell? ⟨X, 5, none⟩ = some (.int .u64 ulk) ∧ W.cell? ⟨X, 6, none⟩ = some (.int .u64 urc) ∧ W.cell? ⟨X, 7, none⟩ = some (.int .u64 urk)) := fun W _ _ _ t => by
        have := t.out.2
        rw [hxe.out] at this
        exact (stO_cells this).2.2
      have HC : Hid (∀ n : Int, n ≤ 20 → S.may (⟨uc, uk, ulc, ulk, urc, urk⟩ : Un) n = r.mayN (⟨uc, uk, ulc, ulk, urc, urk⟩ : Un) n ∧ (∃ sp', Corr (S.run (⟨uc, uk, ulc, ulk, urc, urk⟩ : Un) n) (r.runN (⟨uc, uk, ulc, ulk, urc, urk⟩ : Un) n) sp') ∧ Size (S.run (⟨uc, uk, ulc, ulk, urc, urk⟩ : Un) n) (20 * j + 20)) := fun n hn => hco.run hok n hn HJ.out.z (by omega)
      have HIC : Hid (S.may (⟨uc, uk, ulc, ulk, urc, urk⟩ : Un) 1 = r.may (⟨uc, uk, ulc, ulk, urc, urk⟩ : Un) ∧ (∃ sp', Corr (S.run (⟨uc, uk, ulc, ulk, urc, urk⟩ : Un) 1) (r.insert (⟨uc, uk, ulc, ulk, urc, urk⟩ : Un)) sp') ∧ Size (S.run (⟨uc, uk, ulc, ulk, urc, urk⟩ : Un) 1) (20 * (j + 1))) := by
        obtain ⟨a, c⟩ := hco.insert hok HJ.out.z (by omega)
        exact ⟨a, c, (hco.inv.run1 hok HJ.out.z (by omega)).2.mono (by omega)⟩
      have HIn : Hid ((∀ W, Hid (PlX w W pa b S r X x) → Calls Try.prog 14 #[.pointer (some ⟨pa, 0, none⟩), .agg #[.int .u64 uc, .int .u64 uk, .int .u64 ulc, .int .u64 ulk, .int .u64 urc, .int .u64 urk]] W fun e w' => e = .returned (.bool (S.may (⟨uc, uk, ulc, ulk, urc, urk⟩ : Un) 1)) ∧ Hid (PlX w w' pa b (S.run (⟨uc, uk, ulc, ulk, urc, urk⟩ : Un) 1) r X x)) ∧ ∀ W, Hid (PlX w W pa b (S.run (⟨uc, uk, ulc, ulk, urc, urk⟩ : Un) 1) r X x) → Calls Try.prog 16 #[qP b, .agg #[.int .u64 uc, .int .u64 uk, .int .u64 ulc, .int .u64 ulk, .int .u64 urc, .int .u64 urk]] W fun e w' => e = .returned (.bool (S.may (⟨uc, uk, ulc, ulk, urc, urk⟩ : Un) 1)) ∧ Hid (PlX w w' pa b (S.run (⟨uc, uk, ulc, ulk, urc, urk⟩ : Un) 1) (r.insert (⟨uc, uk, ulc, ulk, urc, urk⟩ : Un)) X x)) := by
        refine ⟨fun W t => (t.out.1.ins (⟨uc, uk, ulc, ulk, urc, urk⟩ : Un) hok HJ.out.z (by omega)).mono fun e w' q => ⟨q.1, q.2.1, q.2.2 _ _ _ t.out.2⟩, fun W t => ?_⟩
        rw [HIC.out.1]
        exact (t.out.1.insQ hlr.2.1 (⟨uc, uk, ulc, ulk, urc, urk⟩ : Un) (by have := hlr.1; omega)).mono fun e w' q => ⟨q.1, q.2.1, q.2.2 _ _ _ t.out.2⟩
      have HCp : Hid (Calls Try.prog 13 #[.pointer (some ⟨pa, 0, none⟩)] Wx fun e w' => ∃ pc, e = .returned (.pointer (some ⟨pc, 0, none⟩)) ∧ Touch (fun _ => False) Wx w' ∧ ∀ W2, Touch (fun _ => False) w' W2 → Calls Try.prog 14 #[.pointer (some ⟨pa, 0, none⟩), .agg #[.int .u64 77, .int .u64 77, .int .u64 0, .int .u64 0, .int .u64 0, .int .u64 0]] W2 fun e w' => (∃ bo, e = .returned (.bool bo)) ∧ PlW w w' pc b S r (20 * (j + 1))) := by
        refine (HPX.out.1.copy HJ.out.z (by omega)).mono ?_
        rintro e w' ⟨pc, rfl, t, hi⟩
        refine ⟨pc, rfl, t, fun W2 t2 => (hi W2 t2 ⟨77, 77, 0, 0, 0, 0⟩ ⟨by decide, by decide, by decide, by decide, by decide, by decide⟩).mono ?_⟩
        rintro e w3 ⟨hb, hh⟩
        exact ⟨hb, hh, HJ.out.c, HJ.out.z.mono (by omega)⟩
      have HId : Hid (∀ W, Calls Try.prog 15 #[.int .u64 77, .int .u64 77] W fun e w' => e = .returned (.agg #[.int .u64 77, .int .u64 77]) ∧ Touch (fun _ => False) W w') := fun W => id_any 77 77 W
      have ewj : IntKind.i64.wrap ((j : Int) + 1) = (j : Int) + 1 := by rw [IntKind.wrap_i64]; omega
      go_upto_region 10 with fail
      rw [show wq.alloc (Obj.cells #[Value.int IntKind.i64 what, Value.int IntKind.i64 nn, Value.int IntKind.u64 uc, Value.int IntKind.u64 uk, Value.int IntKind.u64 ulc, Value.int IntKind.u64 ulk, Value.int IntKind.u64 urc, Value.int IntKind.u64 urk] 37) = Wx from hWx.out.symm, ← hX.out]
      have hst : Wx.heap[X]? = some (stO ⟨what, nn, ⟨uc, uk, ulc, ulk, urc, urk⟩⟩) := by rw [← hxe.out]; exact HPX.out.2
      obtain ⟨y0, y1, y2, y3, y4, y5, y6, y7⟩ := stO_cells hst
      simp only at y0 y1 y2 y3 y4 y5 y6 y7
      clear hst hWx hX hco k0 k1 k2 k3 k4 k5 k6 k7 HZ
      by_cases h3 : what = 3
      · subst h3
        by_cases h20 : 20 < nn
        · obtain ⟨hmay, hcor, hsz⟩ := HC.out (20) (by omega)
          have HSz : Hid ((∃ sp', Corr (S.run (⟨uc, uk, ulc, ulk, urc, urk⟩ : Un) (20)) (r.runN (⟨uc, uk, ulc, ulk, urc, urk⟩ : Un) (20)) sp') ∧ Size (S.run (⟨uc, uk, ulc, ulk, urc, urk⟩ : Un) (20)) (20 * (j + 1))) := ⟨hcor, by rw [show 20 * (j + 1) = 20 * j + 20 from by omega]; exact hsz⟩
          have HR1 : Hid (∀ W, Hid (PlX w W pa b S r X x) → Calls Try.prog 11 #[.pointer (some ⟨pa, 0, none⟩), .agg #[.int .u64 uc, .int .u64 uk, .int .u64 ulc, .int .u64 ulk, .int .u64 urc, .int .u64 urk], .int .i64 (20)] W fun e w' => e = .returned (.bool (S.may (⟨uc, uk, ulc, ulk, urc, urk⟩ : Un) (20))) ∧ Hid (PlX w w' pa b (S.run (⟨uc, uk, ulc, ulk, urc, urk⟩ : Un) (20)) r X x)) := fun W t => (t.out.1.run (⟨uc, uk, ulc, ulk, urc, urk⟩ : Un) hok (20) (by omega) HJ.out.z (by omega)).mono fun e w' q => ⟨q.1, q.2.1, q.2.2 _ _ _ t.out.2⟩
          have HR2 : Hid (∀ W, Hid (PlX w W pa b (S.run (⟨uc, uk, ulc, ulk, urc, urk⟩ : Un) (20)) r X x) → Calls Try.prog 12 #[qP b, .agg #[.int .u64 uc, .int .u64 uk, .int .u64 ulc, .int .u64 ulk, .int .u64 urc, .int .u64 urk], .int .i64 (20)] W fun e w' => e = .returned (.bool (S.may (⟨uc, uk, ulc, ulk, urc, urk⟩ : Un) (20))) ∧ Hid (PlX w w' pa b (S.run (⟨uc, uk, ulc, ulk, urc, urk⟩ : Un) (20)) (r.runN (⟨uc, uk, ulc, ulk, urc, urk⟩ : Un) (20)) X x)) := fun W t => by
            rw [hmay]
            exact (t.out.1.runQ hlr.2.1 (⟨uc, uk, ulc, ulk, urc, urk⟩ : Un) hok (20) (by omega) (by have := hlr.1; omega)).mono fun e w' q => ⟨q.1, q.2.1, q.2.2 _ _ _ t.out.2⟩
          clear hmay hcor hsz HIC HC HIn HCp HId hlr hxe
          generalize S.run (⟨uc, uk, ulc, ulk, urc, urk⟩ : Un) (20) = S' at *
          generalize r.runN (⟨uc, uk, ulc, ulk, urc, urk⟩ : Un) (20) = r' at *
          generalize S.may (⟨uc, uk, ulc, ulk, urc, urk⟩ : Un) (20) = mb at *
          have b6 : (mb == mb) = true := by cases mb <;> rfl
          have T0 : Hid (PlX w Wx.drew pa b S r X x) := ⟨HPX.out.1.touch (Touch.refl _ _).drew, HPX.out.2⟩
          have S0 := HCl.out _ T0
          go_upto_region 17 with fail
          go_region_held3 (fun W => W.cell? ⟨X, 2, none⟩ = some (.int .u64 uc) ∧ W.cell? ⟨X, 3, none⟩ = some (.int .u64 uk) ∧ W.cell? ⟨X, 4, none⟩ = some (.int .u64 ulc) ∧ W.cell? ⟨X, 5, none⟩ = some (.int .u64 ulk) ∧ W.cell? ⟨X, 6, none⟩ = some (.int .u64 urc) ∧ W.cell? ⟨X, 7, none⟩ = some (.int .u64 urk)) (first | assumption | exact S0)
            (first | (go_at_call 11; ((with_reducible refine (HR1.out _ (by assumption)).mono ?_); rintro e w7 ⟨rfl, T7⟩; have S7 := HCl.out _ T7)) | (go_at_call 12; ((with_reducible refine (HR2.out _ (by assumption)).mono ?_); rintro e w8 ⟨rfl, T8⟩; have S8 := HCl.out _ T8)))
          have HT : Hid (PlW w w8 pa b S' r' (20 * (j + 1))) := ⟨T8.out.1, HSz.out.1, HSz.out.2⟩
          clear S0 S7 S8 T0 T7 T8 HR1 HR2 HCl HPX HSz HJ y0 y1 y2 y3 y4 y5 y6 y7
          go_wp2_with fail
          refine (HT.out.same (by omega)).mono ?_
          rintro e W8 ⟨rfl, h8⟩
          have H8 : Hid (PlW w W8 pa b S' r' (20 * (j + 1))) := h8
          clear h8 HT
          go_wp2_with fail
          exact ⟨⟨j + 1, pa, _, _, rfl, by go_num, by omega, H8.out⟩, by simp [intOf]; omega⟩
        · obtain ⟨hmay, hcor, hsz⟩ := HC.out (nn) (by omega)
          have HSz : Hid ((∃ sp', Corr (S.run (⟨uc, uk, ulc, ulk, urc, urk⟩ : Un) (nn)) (r.runN (⟨uc, uk, ulc, ulk, urc, urk⟩ : Un) (nn)) sp') ∧ Size (S.run (⟨uc, uk, ulc, ulk, urc, urk⟩ : Un) (nn)) (20 * (j + 1))) := ⟨hcor, by rw [show 20 * (j + 1) = 20 * j + 20 from by omega]; exact hsz⟩
          have HR1 : Hid (∀ W, Hid (PlX w W pa b S r X x) → Calls Try.prog 11 #[.pointer (some ⟨pa, 0, none⟩), .agg #[.int .u64 uc, .int .u64 uk, .int .u64 ulc, .int .u64 ulk, .int .u64 urc, .int .u64 urk], .int .i64 (nn)] W fun e w' => e = .returned (.bool (S.may (⟨uc, uk, ulc, ulk, urc, urk⟩ : Un) (nn))) ∧ Hid (PlX w w' pa b (S.run (⟨uc, uk, ulc, ulk, urc, urk⟩ : Un) (nn)) r X x)) := fun W t => (t.out.1.run (⟨uc, uk, ulc, ulk, urc, urk⟩ : Un) hok (nn) (by omega) HJ.out.z (by omega)).mono fun e w' q => ⟨q.1, q.2.1, q.2.2 _ _ _ t.out.2⟩
          have HR2 : Hid (∀ W, Hid (PlX w W pa b (S.run (⟨uc, uk, ulc, ulk, urc, urk⟩ : Un) (nn)) r X x) → Calls Try.prog 12 #[qP b, .agg #[.int .u64 uc, .int .u64 uk, .int .u64 ulc, .int .u64 ulk, .int .u64 urc, .int .u64 urk], .int .i64 (nn)] W fun e w' => e = .returned (.bool (S.may (⟨uc, uk, ulc, ulk, urc, urk⟩ : Un) (nn))) ∧ Hid (PlX w w' pa b (S.run (⟨uc, uk, ulc, ulk, urc, urk⟩ : Un) (nn)) (r.runN (⟨uc, uk, ulc, ulk, urc, urk⟩ : Un) (nn)) X x)) := fun W t => by
            rw [hmay]
            exact (t.out.1.runQ hlr.2.1 (⟨uc, uk, ulc, ulk, urc, urk⟩ : Un) hok (nn) (by omega) (by have := hlr.1; omega)).mono fun e w' q => ⟨q.1, q.2.1, q.2.2 _ _ _ t.out.2⟩
          clear hmay hcor hsz HIC HC HIn HCp HId hlr hxe
          generalize S.run (⟨uc, uk, ulc, ulk, urc, urk⟩ : Un) (nn) = S' at *
          generalize r.runN (⟨uc, uk, ulc, ulk, urc, urk⟩ : Un) (nn) = r' at *
          generalize S.may (⟨uc, uk, ulc, ulk, urc, urk⟩ : Un) (nn) = mb at *
          have b6 : (mb == mb) = true := by cases mb <;> rfl
          have T0 : Hid (PlX w Wx.drew pa b S r X x) := ⟨HPX.out.1.touch (Touch.refl _ _).drew, HPX.out.2⟩
          have S0 := HCl.out _ T0
          go_upto_region 17 with fail
          go_region_held3 (fun W => W.cell? ⟨X, 2, none⟩ = some (.int .u64 uc) ∧ W.cell? ⟨X, 3, none⟩ = some (.int .u64 uk) ∧ W.cell? ⟨X, 4, none⟩ = some (.int .u64 ulc) ∧ W.cell? ⟨X, 5, none⟩ = some (.int .u64 ulk) ∧ W.cell? ⟨X, 6, none⟩ = some (.int .u64 urc) ∧ W.cell? ⟨X, 7, none⟩ = some (.int .u64 urk)) (first | assumption | exact S0)
            (first | (go_at_call 11; ((with_reducible refine (HR1.out _ (by assumption)).mono ?_); rintro e w7 ⟨rfl, T7⟩; have S7 := HCl.out _ T7)) | (go_at_call 12; ((with_reducible refine (HR2.out _ (by assumption)).mono ?_); rintro e w8 ⟨rfl, T8⟩; have S8 := HCl.out _ T8)))
          have HT : Hid (PlW w w8 pa b S' r' (20 * (j + 1))) := ⟨T8.out.1, HSz.out.1, HSz.out.2⟩
          clear S0 S7 S8 T0 T7 T8 HR1 HR2 HCl HPX HSz HJ y0 y1 y2 y3 y4 y5 y6 y7
          go_wp2_with fail
          refine (HT.out.same (by omega)).mono ?_
          rintro e W8 ⟨rfl, h8⟩
          have H8 : Hid (PlW w W8 pa b S' r' (20 * (j + 1))) := h8
          clear h8 HT
          go_wp2_with fail
          exact ⟨⟨j + 1, pa, _, _, rfl, by go_num, by omega, H8.out⟩, by simp [intOf]; omega⟩
      by_cases h4 : what = 4
      · subst h4
        clear HIC HC HIn hlr hxe HCl HPX hok h3
        go_wp2_with fail
        refine HCp.out.mono ?_
        rintro e W4 ⟨pc, rfl, t4, hi⟩
        have HI4 : Hid (∀ W2, Touch (fun _ => False) W4 W2 → Calls Try.prog 14 #[.pointer (some ⟨pa, 0, none⟩), .agg #[.int .u64 77, .int .u64 77, .int .u64 0, .int .u64 0, .int .u64 0, .int .u64 0]] W2 fun e w' => (∃ bo, e = .returned (.bool bo)) ∧ PlW w w' pc b S r (20 * (j + 1))) := hi
        clear hi t4 HCp y0 y1 y2 y3 y4 y5 y6 y7
        go_wp2_with fail
        refine (HId.out _).mono ?_
        rintro e W5 ⟨rfl, t5⟩
        have HT5 : Hid (Touch (fun _ => False) W4 W5) := t5
        clear t5 HId
        go_wp2_with fail
        refine (HI4.out _ HT5.out).mono ?_
        rintro e W6 ⟨⟨bo, rfl⟩, h6⟩
        have HT : Hid (PlW w W6 pc b S r (20 * (j + 1))) := h6
        clear h6 HI4 HT5 HJ
        go_wp2_with fail
        refine (HT.out.same (by omega)).mono ?_
        rintro e W8 ⟨rfl, h8⟩
        have H8 : Hid (PlW w W8 pc b S r (20 * (j + 1))) := h8
        clear h8 HT
        go_wp2_with fail
        exact ⟨⟨j + 1, pc, _, _, rfl, by go_num, by omega, H8.out⟩, by simp [intOf]; omega⟩
      · have e3 : (what == 3) = false := by simpa using h3
        have e4 : (what == 4) = false := by simpa using h4
        have HSz : Hid ((∃ sp', Corr (S.run (⟨uc, uk, ulc, ulk, urc, urk⟩ : Un) 1) (r.insert (⟨uc, uk, ulc, ulk, urc, urk⟩ : Un)) sp') ∧ Size (S.run (⟨uc, uk, ulc, ulk, urc, urk⟩ : Un) 1) (20 * (j + 1))) := HIC.out.2
        have HR1 : Hid (∀ W, Hid (PlX w W pa b S r X x) → Calls Try.prog 14 #[.pointer (some ⟨pa, 0, none⟩), .agg #[.int .u64 uc, .int .u64 uk, .int .u64 ulc, .int .u64 ulk, .int .u64 urc, .int .u64 urk]] W fun e w' => e = .returned (.bool (S.may (⟨uc, uk, ulc, ulk, urc, urk⟩ : Un) 1)) ∧ Hid (PlX w w' pa b (S.run (⟨uc, uk, ulc, ulk, urc, urk⟩ : Un) 1) r X x)) := HIn.out.1
        have HR2 : Hid (∀ W, Hid (PlX w W pa b (S.run (⟨uc, uk, ulc, ulk, urc, urk⟩ : Un) 1) r X x) → Calls Try.prog 16 #[qP b, .agg #[.int .u64 uc, .int .u64 uk, .int .u64 ulc, .int .u64 ulk, .int .u64 urc, .int .u64 urk]] W fun e w' => e = .returned (.bool (S.may (⟨uc, uk, ulc, ulk, urc, urk⟩ : Un) 1)) ∧ Hid (PlX w w' pa b (S.run (⟨uc, uk, ulc, ulk, urc, urk⟩ : Un) 1) (r.insert (⟨uc, uk, ulc, ulk, urc, urk⟩ : Un)) X x)) := HIn.out.2
        clear HIC HC HIn HCp HId hlr hxe h3 h4
        generalize S.run (⟨uc, uk, ulc, ulk, urc, urk⟩ : Un) 1 = S' at *
        generalize r.insert (⟨uc, uk, ulc, ulk, urc, urk⟩ : Un) = r' at *
        generalize S.may (⟨uc, uk, ulc, ulk, urc, urk⟩ : Un) 1 = mb at *
        have b6 : (mb == mb) = true := by cases mb <;> rfl
        have T0 : Hid (PlX w Wx.drew pa b S r X x) := ⟨HPX.out.1.touch (Touch.refl _ _).drew, HPX.out.2⟩
        have S0 := HCl.out _ T0
        go_upto_region 11 with fail
        go_region_held3 (fun W => W.cell? ⟨X, 2, none⟩ = some (.int .u64 uc) ∧ W.cell? ⟨X, 3, none⟩ = some (.int .u64 uk) ∧ W.cell? ⟨X, 4, none⟩ = some (.int .u64 ulc) ∧ W.cell? ⟨X, 5, none⟩ = some (.int .u64 ulk) ∧ W.cell? ⟨X, 6, none⟩ = some (.int .u64 urc) ∧ W.cell? ⟨X, 7, none⟩ = some (.int .u64 urk)) (first | assumption | exact S0)
          (first | (go_at_call 14; ((with_reducible refine (HR1.out _ (by assumption)).mono ?_); rintro e w7 ⟨rfl, T7⟩; have S7 := HCl.out _ T7)) | (go_at_call 16; ((with_reducible refine (HR2.out _ (by assumption)).mono ?_); rintro e w8 ⟨rfl, T8⟩; have S8 := HCl.out _ T8)))
        have HT : Hid (PlW w w8 pa b S' r' (20 * (j + 1))) := ⟨T8.out.1, HSz.out.1, HSz.out.2⟩
        clear S0 S7 S8 T0 T7 T8 HR1 HR2 HCl HPX HSz HJ y0 y1 y2 y3 y4 y5 y6 y7
        go_wp2_with fail
        refine (HT.out.same (by omega)).mono ?_
        rintro e W8 ⟨rfl, h8⟩
        have H8 : Hid (PlW w W8 pa b S' r' (20 * (j + 1))) := h8
        clear h8 HT
        go_wp2_with fail
        exact ⟨⟨j + 1, pa, _, _, rfl, by go_num, by omega, H8.out⟩, by simp [intOf]; omega⟩
end Go.Proofs.Ytnbphdmpbjahhaa
