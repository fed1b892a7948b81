/- quirelaw7.VectorReads. -/
import Derived.Test.YtdblfabbmpdoiaaGreatVectorBytes
import Derived.Test.YtdblfabbmpdoiaaGreatVRr
import Derived.Test.YtdblfabbmpdoiaaGreatRRv
import Derived.Test.YtdblfabbmpdoiaaGreatIdLay
import Derived.Deep.QuietTactic
import Derived.BigQuiet
namespace Go.Proofs.YtdblfabbmpdoiaaGreat
open Go.RowKit Go.Maps
set_option linter.unusedVariables false
set_option linter.unusedSimpArgs false
set_option maxRecDepth 100000

theorem vSteps_len (n : Nat) : ∀ (la : Int) (acc : List Ck) (bs : List UInt8), (vSteps n la acc bs).2.1.length ≤ acc.length + n := by
  induction n with
  | zero => intro la acc bs; simp [vSteps]
  | succ n ih =>
    intro la acc bs
    unfold vSteps
    split
    · simp
    · split
      · simp
      · refine Nat.le_trans (ih _ _ _) ?_
        simp; omega
theorem rdV_len (bs : List UInt8) : (rdV bs).2.1.length ≤ 16384 := by
  unfold rdV
  split
  · simp
  · rename_i h
    have := vSteps_len (rdU bs 16384).2.1 0 [] (rdU bs 16384).2.2
    have := rdU_le (bs := bs) (most := 16384) (by simpa using h)
    simp at *
    omega
set_option maxHeartbeats 1600000 in
theorem clocksEq_quiet (a : List Ck) (va vb : Value) (w : World) (ha : SlC w va a) (hb : SlC w vb a) (hll : a.length ≤ 1073741824) :
    Calls Tryz.prog 14 #[va, vb] w fun e w' => e = .returned (.bool true) ∧ ∃ m, w' = w.drewN m := by
  have HA : Hid (SlC w va a) := ha
  have HB : Hid (SlC w vb a) := hb
  obtain ⟨aoa, capa, rfl, _⟩ := ha
  obtain ⟨aob, capb, rfl, _⟩ := hb
  go_enter Tryz.func14, Tryz.ntmps14
  go_wp2_with fail
  go_loopg [5] a.length (fun g s5 wx => ∃ (j q : Nat), j + g = a.length ∧ s5 = .int .i64 (j : Int) ∧ wx = w.drewN q)
  case atStart => exact ⟨0, 0, by omega, rfl, rfl⟩
  case round =>
    obtain ⟨j, q, hjg, rfl, hwr⟩ := hrel
    rw [hwr]
    by_cases hlt : j < a.length
    · have hne : a ≠ [] := by rintro rfl; simp at hlt
      obtain ⟨b, o, cp, e, _, _, hb, hrow⟩ := HA.out.row hne
      obtain ⟨rfl, _, rfl⟩ : aoa = some ⟨b, o, none⟩ ∧ True ∧ capa = cp := by simpa using e
      obtain ⟨b', o', cp', e', _, _, hb', hrow'⟩ := HB.out.row hne
      obtain ⟨rfl, _, rfl⟩ : aob = some ⟨b', o', none⟩ ∧ True ∧ capb = cp' := by simpa using e'
      obtain ⟨c0, c1⟩ := hrow j hlt
      obtain ⟨d0, d1⟩ := hrow' j hlt
      generalize a[j] = r at *
      have hi1 : (0 : Int) ≤ (j : Int) := by omega
      have hi2 : (j : Int) < (a.length : Int) := by omega
      clear hrow hrow' e e' hne hwr
      go_wp2_with fail
      go_quiet (fail)
      go_wp2_with fail
      go_roundg (a.length - (j + 1))
      case measure => omega
      case rel => exact ⟨j + 1, _, by omega, by go_num, rfl⟩
    · have hjl : j = a.length := by omega
      subst hjl
      clear hwr
      go_wp2_with fail
      go_ret
      exact ⟨rfl, _, rfl⟩
set_option maxHeartbeats 8000000 in
theorem vectorReads_any (w : World) (gm0 : Nat) (aom : Option Addr) (capm : Nat) (mb : List UInt8) (hno : aom = none → capm = 0) (hL0 : Lies w gm0 aom mb) (hle : mb.length ≤ capm) (hmx : capm ≤ maxLen) :
    Calls Tryz.prog 4 #[.slice aom mb.length capm] w fun e w' => e = .returned (.bool true) ∧ Touch (fun _ => False) w w' := by
  have hmx2 : capm ≤ 9223372036854775807 := by unfold maxLen at hmx; omega
  have SM : Hid ((aom = none → capm = 0) ∧ Lies w gm0 aom mb) := ⟨hno, hL0⟩
  have KN := vknown_any w
  clear hno hL0
  go_enter Tryz.func4, Tryz.ntmps4
  go_wp2_with fail
  refine KN.mono ?_
  rintro e w1 ⟨rfl, t1⟩
  have HT : Hid (Touch (fun _ => False) w w1) := t1
  clear t1 KN
  by_cases hm : mb.length ≤ 3000
  case neg =>
    have hm1 : (3000 : Int) < (mb.length : Int) := by omega
    go_wp2_with fail
    go_ret
    exact ⟨rfl, HT.out⟩
  case pos =>
  have hm1 : ¬ ((3000 : Int) < (mb.length : Int)) := by omega
  have K2 := newReader_any gm0 aom mb _ capm rfl SM.out.1 w1 (SM.out.2.touch HT.out) (by omega)
  go_wp2_with fail
  refine K2.mono ?_
  rintro e w2 ⟨p, g, rfl, R2, hp, hg, t2⟩
  have hplt := R2.lt
  have hglt := R2.ltBytes
  obtain ⟨w3, hw3⟩ : ∃ w3, w3 = w2.alloc (.cells #[.slice aom mb.length capm, .int .i64 0] 45) := ⟨_, rfl⟩
  have T2 := HT.out.trans t2
  have t3 : Touch (fun _ => False) w2 w3 := by rw [hw3]; exact (Touch.refl _ _).alloc _
  have z3 : w3.heap.size = w2.heap.size + 1 := by rw [hw3]; simp
  have zw := HT.out.size
  obtain ⟨gm, hgm, hgm2, hL3⟩ : ∃ gm, gm < w3.heap.size ∧ (mb ≠ [] → gm < w.heap.size) ∧ Lies w3 gm aom mb := by
    by_cases e : mb = []
    · exact ⟨0, by omega, fun h => absurd e h, .inl e⟩
    · have := SM.out.2.lt e
      have := T2.size
      exact ⟨gm0, by omega, fun _ => SM.out.2.lt e, SM.out.2.touch (T2.trans t3)⟩
  have Q3 : RR w3 w2.heap.size gm mb 0 := ⟨aom, capm, by rw [hw3]; exact heap_alloc_new _ _, hle, hmx2, hL3⟩
  have K3 := vread_full p g mb w3 (R2.keep t3 id (fun _ => id))
  rw [hw3] at K3
  have H3 : Hid (Touch (fun _ => False) w w3 ∧ RR w3 w2.heap.size gm mb 0) := ⟨T2.trans t3, Q3⟩
  have HW : Hid (w3 = w2.alloc (.cells #[.slice aom mb.length capm, .int .i64 0] 45)) := hw3
  clear R2 t2 T2 t3 Q3 hL3 K2 hw3
  go_wp2_with fail
  refine K3.mono ?_
  rw [← HW.out]
  intro e w4 P4
  have hzl := rdV_len mb
  have K4 : ∀ (hR : RR w4 w2.heap.size gm mb 0) (hs : w3.heap.size ≤ w4.heap.size), Calls Tryz.prog 19 #[.pointer (some ⟨w2.heap.size, 0, none⟩)] w4 (RRF (rdV mb) w2.heap.size gm w4) := fun hR hs => refRead_any w2.heap.size gm mb w4 hR (by omega)
  have hps : p ≠ w2.heap.size := by omega
  have hgs : g ≠ w2.heap.size := by omega
  have hpg : mb ≠ [] → ¬ gm = p := fun h e => by have := hgm2 h; omega
  generalize rdV mb = r at *
  obtain ⟨er, out, rest⟩ := r
  rcases P4 with ⟨h0, v4, rfl, C4, R4⟩ | ⟨h0, rfl, t4, R4⟩
  · simp only at h0 C4 R4 hzl
    subst h0
    have K5 := K4 (H3.out.2.keep C4.touch (fun e => hps e.symm) hpg) C4.touch.size
    have HS4 : Hid (SlC w4 v4 out ∧ ∀ k, v4.ownBlock = some k → w3.heap.size ≤ k) := ⟨C4.sl, C4.fresh⟩
    have H4 : Hid (Touch (fun _ => False) w w4 ∧ Rd w4 p g rest 0) := ⟨H3.out.1.then C4.touch (fun k hk e => by omega), R4⟩
    obtain ⟨ao4, cap4, rfl⟩ := C4.shape
    clear C4 R4 K4 H3 K3
    go_wp2_with fail
    refine K5.mono ?_
    rintro e w5 ⟨t5, cs, Q5, ⟨_, hcs, v5, rfl, C5⟩ | ⟨h1, _⟩⟩
    case inr => exact absurd rfl h1
    simp only at hcs C5 Q5
    subst hcs
    have SA : SlC w5 (.slice ao4 out.length cap4) out := HS4.out.1.touchS t5 (fun b o e hk => by have := HS4.out.2 b (by rw [e]; rfl); omega)
    have SB := C5.sl
    have R5 := H4.out.2.keep t5 hps (fun _ => hgs)
    have hE5 := Q5.err
    obtain ⟨ao6, cap6, hb6, _⟩ := Q5
    have hB5 : w5.cell? ⟨w2.heap.size, 0, none⟩ = some (.slice ao6 cs.length cap6) := by rw [cell_of_block hb6]; rfl
    have T5 : Touch (fun _ => False) w w5 := H4.out.1.then t5 (fun k hk e => by have := H4.out.1.size; omega)
    have HCk : Hid (∀ n, Calls Tryz.prog 14 #[.slice ao4 out.length cap4, v5] (w5.drewN n) fun e w' => e = .returned (.bool true) ∧ ∃ m, w' = (w5.drewN n).drewN m) := fun n => clocksEq_quiet out _ _ _ (SA.touch ((Touch.refl _ _).drewN n)) (SB.touch ((Touch.refl _ _).drewN n)) (by omega)
    have HEr : Hid (∀ n, Calls Tryz.prog 17 #[.pointer (some ⟨p, 0, none⟩)] (w5.drewN n) fun e w' => e = .returned (.int .i64 0) ∧ w' = w5.drewN n) := fun n => err_any p g cs 0 _ (R5.keep (S := fun _ => False) ((Touch.refl _ _).drewN n) id (fun _ => id))
    have HLe : Hid (∀ n, Calls Tryz.prog 18 #[.pointer (some ⟨p, 0, none⟩)] (w5.drewN n) fun e w' => e = .returned (.int .i64 cs.length) ∧ w' = w5.drewN n) := fun n => left_any p g cs 0 _ (R5.keep (S := fun _ => False) ((Touch.refl _ _).drewN n) id (fun _ => id))
    have HT5 : Hid (Touch (fun _ => False) w w5) := T5
    obtain ⟨ao5, cap5, rfl⟩ := C5.shape
    clear SA SB R5 hb6 T5 C5 t5 H4 HS4 K5
    generalize cs.length = L at *
    go_wp2_with fail
    go_quiet (first | (go_at_call 14; exact Calls.quiet_of (HCk.out _)) | (go_at_call 17; exact Calls.quiet_of_same (HEr.out _)) | (go_at_call 18; exact Calls.quiet_of_same (HLe.out _)))
    go_wp2_with fail
    go_ret
    exact ⟨rfl, HT5.out.drewN _⟩
  · simp only at h0 R4
    have K5 := K4 (H3.out.2.keep t4 (fun e => hps e.symm) hpg) t4.size
    have H4 : Hid (Touch (fun _ => False) w w4 ∧ Rd w4 p g mb er) := ⟨H3.out.1.then t4 (fun k hk e => by omega), R4⟩
    clear R4 K4 H3 K3 t4
    go_wp2_with fail
    refine K5.mono ?_
    rintro e w5 ⟨t5, cs, Q5, ⟨h1, _⟩ | ⟨_, rfl⟩⟩
    case inl => exact absurd h1 h0
    simp only at Q5
    have R5 := H4.out.2.keep t5 hps (fun _ => hgs)
    have hE5 := Q5.err
    have T5 : Touch (fun _ => False) w w5 := H4.out.1.then t5 (fun k hk e => by have := H4.out.1.size; omega)
    have HCk : Hid (∀ n, Calls Tryz.prog 14 #[.slice none 0 0, .slice none 0 0] (w5.drewN n) fun e w' => e = .returned (.bool true) ∧ ∃ m, w' = (w5.drewN n).drewN m) := fun n => clocksEq_quiet [] _ _ _ (SlC.nil _) (SlC.nil _) (by simp)
    have HEr : Hid (∀ n, Calls Tryz.prog 17 #[.pointer (some ⟨p, 0, none⟩)] (w5.drewN n) fun e w' => e = .returned (.int .i64 er) ∧ w' = w5.drewN n) := fun n => err_any p g mb er _ (R5.keep (S := fun _ => False) ((Touch.refl _ _).drewN n) id (fun _ => id))
    have HT5 : Hid (Touch (fun _ => False) w w5) := T5
    have hz1 : (er == 0) = false := by simpa using h0
    have hz2 : (er != 0) = true := by simpa using h0
    have hz3 : (er == er) = true := by simp
    clear R5 T5 t5 H4 K5 Q5 h0
    go_wp2_with fail
    go_quiet (first | (go_at_call 14; exact Calls.quiet_of (HCk.out _)) | (go_at_call 17; exact Calls.quiet_of_same (HEr.out _)))
    go_wp2_with fail
    go_ret
    exact ⟨rfl, HT5.out.drewN _⟩
end Go.Proofs.YtdblfabbmpdoiaaGreat
