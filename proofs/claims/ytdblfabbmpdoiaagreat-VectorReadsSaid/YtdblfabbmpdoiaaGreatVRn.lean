/- The contracts of vector.number, step, clock, readClocks on any bytes. -/
import Derived.Test.YtdblfabbmpdoiaaGreatVBn
namespace Go.Proofs.YtdblfabbmpdoiaaGreat
open Go.RowKit Go.Maps
set_option linter.unusedVariables false
set_option linter.unusedSimpArgs false
set_option maxRecDepth 100000

theorem rdU_le {bs : List UInt8} {most : Nat} (h : (rdU bs most).1 = 0) : (rdU bs most).2.1 ≤ most := by
  unfold rdU at h ⊢
  split
  · rename_i h1; rw [if_pos h1] at h; exact absurd h h1
  · split
    · rename_i h1 h2; rw [if_neg h1, if_pos h2] at h; simp at h
    · rename_i h1 h2; simp; omega
theorem rdU_err {bs : List UInt8} {most : Nat} (h : (rdU bs most).1 ≠ 0) : (rdU bs most).2 = (0, bs) ∧ ((rdU bs most).1 = 10 ∨ (rdU bs most).1 = 11 ∨ (rdU bs most).1 = 12) := by
  unfold rdU at h ⊢
  have := numGo_err bs 0 0
  split
  · rename_i h1; simp only at h1 ⊢; exact ⟨trivial, by rcases this with e | e | e <;> simp_all⟩
  · split
    · simp
    · rename_i h1 h2; rw [if_neg h1, if_neg h2] at h; simp at h
/-- How far the next client is. -/
def rdStep (bs : List UInt8) (la : Int) : Int × Nat × List UInt8 :=
  if (rdU bs 18446744073709551615).1 ≠ 0 then rdU bs 18446744073709551615 else if (rdU bs 18446744073709551615).2.1 = 0 ∨ 9007199254740991 - la < ((rdU bs 18446744073709551615).2.1 : Int) then (11, 0, bs) else rdU bs 18446744073709551615
def rdClk (bs : List UInt8) : Int × Nat × List UInt8 :=
  if (rdU bs 9007199254740991).1 ≠ 0 then rdU bs 9007199254740991 else if (rdU bs 9007199254740991).2.1 = 0 then (11, 0, bs) else rdU bs 9007199254740991
def vSteps : Nat → Int → List Ck → List UInt8 → Int × List Ck × List UInt8
  | 0, _, acc, bs => (0, acc, bs)
  | n + 1, la, acc, bs =>
    if (rdStep bs la).1 ≠ 0 then ((rdStep bs la).1, [], []) else
    if (rdClk (rdStep bs la).2.2).1 ≠ 0 then ((rdClk (rdStep bs la).2.2).1, [], []) else
    vSteps n (la + (rdStep bs la).2.1) (acc ++ [⟨la + (rdStep bs la).2.1, (rdClk (rdStep bs la).2.2).2.1⟩]) (rdClk (rdStep bs la).2.2).2.2
/-- What a vector's reading gives: the error, the clocks, what is left. -/
def rdV (bs : List UInt8) : Int × List Ck × List UInt8 :=
  if (rdU bs 16384).1 ≠ 0 then ((rdU bs 16384).1, [], []) else vSteps (rdU bs 16384).2.1 0 [] (rdU bs 16384).2.2
theorem rdStep_ok {bs : List UInt8} {la : Int} (h : (rdStep bs la).1 = 0) : 0 < (rdStep bs la).2.1 ∧ ((rdStep bs la).2.1 : Int) ≤ 9007199254740991 - la := by
  unfold rdStep at h ⊢
  split
  · rename_i h1; rw [if_pos h1] at h; exact absurd h h1
  · split
    · rename_i h1 h2; rw [if_neg h1, if_pos h2] at h; simp at h
    · omega
theorem rdClk_ok {bs : List UInt8} (h : (rdClk bs).1 = 0) : 0 < (rdClk bs).2.1 ∧ (rdClk bs).2.1 ≤ 9007199254740991 := by
  unfold rdClk at h ⊢
  split
  · rename_i h1; rw [if_pos h1] at h; exact absurd h h1
  · split
    · rename_i h1 h2; rw [if_neg h1, if_pos h2] at h; simp at h
    · rename_i h1 h2
      have := rdU_le (bs := bs) (most := 9007199254740991) (by simpa using h1)
      omega
/-- A number, or a failure. -/
def NF (r : Int × Nat × List UInt8) (p g : Nat) (w : World) (e : Ending) (w' : World) : Prop :=
  Touch (· = p) w w' ∧ ((r.1 = 0 ∧ e = .returned (.int .u64 (r.2.1 : Int)) ∧ Rd w' p g r.2.2 0) ∨ (r.1 ≠ 0 ∧ e = .panicked [thrown r.1] ∧ ∃ cs er, Rd w' p g cs er))

set_option maxHeartbeats 800000 in
theorem vnumber_full (p g most : Nat) (bs : List UInt8) (w : World) (h : Rd w p g bs 0) (hm : most < 18446744073709551616) (x : Int) (hx : x = most) :
    Calls Tryz.prog 51 #[.pointer (some ⟨p, 0, none⟩), .int .u64 x] w (NF (rdU bs most) p g w) := by
  subst hx
  have K1 := uint_any p g bs 0 most w h hm
  unfold UintPost at K1
  rw [show rdUint bs 0 most = rdU bs most from by unfold rdUint; rw [if_neg (by simp)]] at K1
  have HU : Hid ((rdU bs most).1 ≠ 0 → (rdU bs most).1 = 10 ∨ (rdU bs most).1 = 11 ∨ (rdU bs most).1 = 12) := fun h => (rdU_err h).2
  generalize rdU bs most = r at *
  obtain ⟨er, N, rest⟩ := r
  simp only at K1 HU
  go_enter Tryz.func51, Tryz.ntmps51
  go_wp2_with fail
  refine K1.mono ?_
  rintro e w1 ⟨rfl, R1, t1⟩
  have K2 := err_any p g rest er w1 R1
  have HQ : Hid (Rd w1 p g rest er ∧ Touch (· = p) w w1) := ⟨R1, t1⟩
  clear R1 t1 K1 h
  by_cases h0 : er = 0
  · subst h0
    go_wp2_with fail
    refine K2.mono ?_
    rintro e w2 ⟨rfl, hw2⟩
    rw [hw2]
    clear hw2 K2
    go_wp2_with fail
    go_ret
    exact ⟨HQ.out.2, .inl ⟨rfl, rfl, HQ.out.1⟩⟩
  · have h1 : (er == 0) = false := by simpa using h0
    have K3 := fail_any er w1 h1
    have HK2 : Hid (Calls Tryz.prog 17 #[.pointer (some ⟨p, 0, none⟩)] w1 fun e w' => e = .returned (.int .i64 er) ∧ w' = w1) := K2
    go_wp2_with fail
    refine K2.mono ?_
    rintro e w2 ⟨rfl, hw2⟩
    rw [hw2]
    clear hw2 K2
    go_wp2_with fail
    refine HK2.out.mono ?_
    rintro e w2 ⟨rfl, hw2⟩
    rw [hw2]
    clear hw2 HK2
    go_wp2_with fail
    refine K3.mono ?_
    rintro e w2 ⟨rfl, hw2⟩
    rw [hw2]
    clear hw2 K3
    go_wp2
    exact ⟨rfl, HQ.out.2, .inr ⟨h0, rfl, _, _, HQ.out.1⟩⟩
set_option maxHeartbeats 800000 in
theorem vstep_full (p g : Nat) (la : Int) (bs : List UInt8) (w : World) (h : Rd w p g bs 0) (hl : 0 ≤ la) (hl2 : la ≤ 9007199254740991) :
    Calls Tryz.prog 52 #[.pointer (some ⟨p, 0, none⟩), .int .u64 la] w (NF (rdStep bs la) p g w) := by
  have K1 := vnumber_full p g 18446744073709551615 bs w h (by omega) 18446744073709551615 (by omega)
  have HU : Hid ((rdU bs 18446744073709551615).1 = 0 → (rdU bs 18446744073709551615).2.1 ≤ 18446744073709551615) := rdU_le
  have HD : Hid (rdStep bs la = if (rdU bs 18446744073709551615).1 ≠ 0 then rdU bs 18446744073709551615 else if (rdU bs 18446744073709551615).2.1 = 0 ∨ 9007199254740991 - la < ((rdU bs 18446744073709551615).2.1 : Int) then (11, 0, bs) else rdU bs 18446744073709551615) := Eq.refl (rdStep bs la)
  generalize rdStep bs la = q at *
  generalize rdU bs 18446744073709551615 = r at *
  obtain ⟨er, N, rest⟩ := r
  simp only at HU HD
  have F11 : Hid (∀ w, Calls Tryz.prog 63 #[.int .i64 11] w fun e w' => e = .panicked [thrown 11] ∧ w' = w) := fun w => fail_any 11 w (by decide)
  clear h
  go_enter Tryz.func52, Tryz.ntmps52
  go_wp2_with fail
  refine K1.mono ?_
  rintro e w1 ⟨t1, ⟨h0, rfl, R1⟩ | ⟨h0, rfl, cs, er', R1⟩⟩
  · simp only at h0 R1
    subst h0
    have HN := HU.out rfl
    have HQ : Hid (Rd w1 p g rest 0 ∧ Touch (· = p) w w1) := ⟨R1, t1⟩
    clear R1 t1 K1
    simp only
    by_cases hz : N = 0
    · subst hz
      have HE : Hid (q = (11, 0, bs)) := by rw [Hid, HD.out, if_neg (by simp), if_pos (.inl rfl)]
      go_wp2_with fail
      refine (F11.out _).mono ?_
      rintro e w2 ⟨rfl, hw2⟩
      rw [hw2]
      clear hw2
      go_wp2
      refine ⟨rfl, HQ.out.2, .inr ⟨?_, ?_, _, _, HQ.out.1⟩⟩ <;> rw [HE.out] <;> simp
    · have hn1 : ¬ ((N : Int) = 0) := by omega
      have hn2 : ((N : Int) == 0) = false := by simpa using hn1
      by_cases hb : 9007199254740991 - la < (N : Int)
      · have HE : Hid (q = (11, 0, bs)) := by rw [Hid, HD.out, if_neg (by simp), if_pos (.inr hb)]
        go_wp2_with fail
        refine (F11.out _).mono ?_
        rintro e w2 ⟨rfl, hw2⟩
        rw [hw2]
        clear hw2
        go_wp2
        refine ⟨rfl, HQ.out.2, .inr ⟨?_, ?_, _, _, HQ.out.1⟩⟩ <;> rw [HE.out] <;> simp
      · have HE : Hid (q = (0, N, rest)) := by rw [Hid, HD.out, if_neg (by simp), if_neg (by omega)]
        go_wp2_with fail
        go_ret
        refine ⟨HQ.out.2, .inl ?_⟩
        rw [HE.out]
        exact ⟨rfl, rfl, HQ.out.1⟩
  · simp only at h0
    have HE : Hid (q = (er, N, rest)) := by rw [Hid, HD.out, if_pos h0]
    have HQ : Hid (Rd w1 p g cs er' ∧ Touch (· = p) w w1) := ⟨R1, t1⟩
    clear R1 t1 K1
    go_wp2
    refine ⟨rfl, HQ.out.2, .inr ?_⟩
    rw [HE.out]
    exact ⟨h0, rfl, _, _, HQ.out.1⟩
set_option maxHeartbeats 800000 in
theorem vclock_full (p g : Nat) (bs : List UInt8) (w : World) (h : Rd w p g bs 0) :
    Calls Tryz.prog 53 #[.pointer (some ⟨p, 0, none⟩)] w (NF (rdClk bs) p g w) := by
  have K1 := vnumber_full p g 9007199254740991 bs w h (by omega) 9007199254740991 (by omega)
  have HU : Hid ((rdU bs 9007199254740991).1 = 0 → (rdU bs 9007199254740991).2.1 ≤ 9007199254740991) := rdU_le
  have HD : Hid (rdClk bs = if (rdU bs 9007199254740991).1 ≠ 0 then rdU bs 9007199254740991 else if (rdU bs 9007199254740991).2.1 = 0 then (11, 0, bs) else rdU bs 9007199254740991) := Eq.refl (rdClk bs)
  generalize rdClk bs = q at *
  generalize rdU bs 9007199254740991 = r at *
  obtain ⟨er, N, rest⟩ := r
  simp only at HU HD
  have F11 : Hid (∀ w, Calls Tryz.prog 63 #[.int .i64 11] w fun e w' => e = .panicked [thrown 11] ∧ w' = w) := fun w => fail_any 11 w (by decide)
  clear h
  go_enter Tryz.func53, Tryz.ntmps53
  go_wp2_with fail
  refine K1.mono ?_
  rintro e w1 ⟨t1, ⟨h0, rfl, R1⟩ | ⟨h0, rfl, cs, er', R1⟩⟩
  · simp only at h0 R1
    subst h0
    have HN := HU.out rfl
    have HQ : Hid (Rd w1 p g rest 0 ∧ Touch (· = p) w w1) := ⟨R1, t1⟩
    clear R1 t1 K1
    simp only
    by_cases hz : N = 0
    · subst hz
      have HE : Hid (q = (11, 0, bs)) := by rw [Hid, HD.out, if_neg (by simp), if_pos rfl]
      go_wp2_with fail
      refine (F11.out _).mono ?_
      rintro e w2 ⟨rfl, hw2⟩
      rw [hw2]
      clear hw2
      go_wp2
      refine ⟨rfl, HQ.out.2, .inr ⟨?_, ?_, _, _, HQ.out.1⟩⟩ <;> rw [HE.out] <;> simp
    · have hn1 : ¬ ((N : Int) = 0) := by omega
      have hn2 : ((N : Int) == 0) = false := by simpa using hn1
      have HE : Hid (q = (0, N, rest)) := by rw [Hid, HD.out, if_neg (by simp), if_neg hz]
      go_wp2_with fail
      go_ret
      refine ⟨HQ.out.2, .inl ?_⟩
      rw [HE.out]
      exact ⟨rfl, rfl, HQ.out.1⟩
  · simp only at h0
    have HE : Hid (q = (er, N, rest)) := by rw [Hid, HD.out, if_pos h0]
    have HQ : Hid (Rd w1 p g cs er' ∧ Touch (· = p) w w1) := ⟨R1, t1⟩
    clear R1 t1 K1
    go_wp2
    refine ⟨rfl, HQ.out.2, .inr ?_⟩
    rw [HE.out]
    exact ⟨h0, rfl, _, _, HQ.out.1⟩
/-- A vector, or a failure. -/
def VF (r : Int × List Ck × List UInt8) (p g : Nat) (w : World) (e : Ending) (w' : World) : Prop :=
  (r.1 = 0 ∧ ∃ v', e = .returned v' ∧ ReadC w w' p v' r.2.1 ∧ Rd w' p g r.2.2 0) ∨ (r.1 ≠ 0 ∧ e = .panicked [thrown r.1] ∧ Touch (· = p) w w' ∧ ∃ cs er, Rd w' p g cs er)
set_option maxHeartbeats 4000000 in
theorem readClocks_full (p g : Nat) (bs : List UInt8) (w : World) (h : Rd w p g bs 0) :
    Calls Tryz.prog 35 #[.pointer (some ⟨p, 0, none⟩)] w (VF (rdV bs) p g w) := by
  have hplt := h.lt
  have hglt := h.ltBytes
  have K1 := vnumber_full p g 16384 bs w h (by omega) 16384 (by omega)
  have HU : Hid ((rdU bs 16384).1 = 0 → (rdU bs 16384).2.1 ≤ 16384) := rdU_le
  have HD : Hid (rdV bs = if (rdU bs 16384).1 ≠ 0 then ((rdU bs 16384).1, [], []) else vSteps (rdU bs 16384).2.1 0 [] (rdU bs 16384).2.2) := Eq.refl (rdV bs)
  generalize rdV bs = q at *
  generalize rdU bs 16384 = r at *
  obtain ⟨er, N, rest⟩ := r
  simp only at HU HD
  clear h
  go_enter Tryz.func35, Tryz.ntmps35
  go_wp2_with fail
  refine K1.mono ?_
  rintro e w1 ⟨t1, ⟨h0, rfl, R1⟩ | ⟨h0, rfl, cs, er', R1⟩⟩
  case inr =>
    simp only at h0
    have HQ : Hid (VF q p g w (.panicked [thrown er]) w1) := by
      rw [HD.out, if_pos h0]
      exact .inr ⟨h0, rfl, t1, _, _, R1⟩
    clear R1 t1 K1 HU HD
    go_wp2
    exact ⟨rfl, HQ.out⟩
  case inl =>
  simp only at h0 R1
  subst h0
  have hN := HU.out rfl
  have HV : Hid (q = vSteps N 0 [] rest) := by rw [Hid, HD.out, if_neg (by simp)]
  have HR1 : Hid (Rd w1 p g rest 0 ∧ Touch (· = p) w w1) := ⟨R1, t1⟩
  clear R1 t1 K1 HD HU
  simp only
  go_wp2_with fail
  go_loopg [3, 4, 7] N (fun gg s3 s4 s7 wx => ∃ (j : Nat) (la : Int) (rs : List Ck) (cs : List UInt8), j + gg = N ∧ s7 = .int .u64 (j : Int) ∧ s4 = .int .u64 la ∧ (0 ≤ la ∧ la ≤ 9007199254740991) ∧ Hid (q = vSteps gg la rs cs ∧ ReadC w wx p s3 rs ∧ Rd wx p g cs 0) ∧ Hid (rs.length = j) ∧ ∃ ao cap, s3 = .slice ao j cap)
  case atStart => exact ⟨0, 0, [], rest, by omega, rfl, rfl, by omega, ⟨HV.out, ⟨World.ownsRow_nil _ _ _ _, HR1.out.2, fun k hk => by simp [Value.ownBlock] at hk⟩, HR1.out.1⟩, rfl, ⟨_, _, rfl⟩⟩
  case round =>
    obtain ⟨j, la, rs, cs, hjg, rfl, rfl, ⟨hla0, hla1⟩, H, HJ, ⟨ao3, cap3, rfl⟩⟩ := hrel
    obtain ⟨wx, hwx⟩ : ∃ wx, wx = wr := ⟨_, rfl⟩
    subst hwx
    by_cases hlt : j < N
    · obtain ⟨gg, rfl⟩ : ∃ k, gk = k + 1 := ⟨gk - 1, by omega⟩
      have HS := vstep_full p g la cs wx H.out.2.2 hla0 hla1
      have HOk : Hid ((rdStep cs la).1 = 0 → 0 < (rdStep cs la).2.1 ∧ ((rdStep cs la).2.1 : Int) ≤ 9007199254740991 - la) := rdStep_ok
      have HV2 : Hid (q = if (rdStep cs la).1 ≠ 0 then ((rdStep cs la).1, [], []) else if (rdClk (rdStep cs la).2.2).1 ≠ 0 then ((rdClk (rdStep cs la).2.2).1, [], []) else vSteps gg (la + (rdStep cs la).2.1) (rs ++ [⟨la + (rdStep cs la).2.1, (rdClk (rdStep cs la).2.2).2.1⟩]) (rdClk (rdStep cs la).2.2).2.2) := H.out.1
      have HC3 : Hid (ReadC w wx p (.slice ao3 j cap3) rs) := H.out.2.1
      clear H HV HR1
      generalize rdStep cs la = r at *
      obtain ⟨er, dn, rest2⟩ := r
      simp only at HOk HV2
      go_wp2_with fail
      refine HS.mono ?_
      rintro e w2 ⟨t2, ⟨h0, rfl, R2⟩ | ⟨h0, rfl, cs2, er2, R2⟩⟩
      case inr =>
        simp only at h0
        have HQ : Hid (VF q p g w (.panicked [thrown er]) w2) := by
          rw [HV2.out, if_pos h0]
          exact .inr ⟨h0, rfl, HC3.out.touch.trans t2, _, _, R2⟩
        clear R2 t2 HS HOk HV2 HC3
        go_wp2
        exact ⟨rfl, HQ.out⟩
      case inl =>
      simp only at h0 R2
      subst h0
      obtain ⟨hd1, hd2⟩ := HOk.out rfl
      have HV3 : Hid (q = if (rdClk rest2).1 ≠ 0 then ((rdClk rest2).1, [], []) else vSteps gg (la + dn) (rs ++ [⟨la + dn, (rdClk rest2).2.1⟩]) (rdClk rest2).2.2) := by rw [Hid, HV2.out, if_neg (by simp)]
      have HK := vclock_full p g rest2 w2 R2
      have HOk2 : Hid ((rdClk rest2).1 = 0 → 0 < (rdClk rest2).2.1 ∧ (rdClk rest2).2.1 ≤ 9007199254740991) := rdClk_ok
      have HC4 : Hid (ReadC w w2 p (.slice ao3 j cap3) rs) := HC3.out.on hplt t2
      clear R2 t2 HS HOk HV2 HC3
      generalize rdClk rest2 = r2 at *
      obtain ⟨er2, kn, rest3⟩ := r2
      simp only at HV3 HOk2
      simp only
      go_wp2_with fail
      refine HK.mono ?_
      rintro e w3 ⟨t3, ⟨h0, rfl, R3⟩ | ⟨h0, rfl, cs3, er3, R3⟩⟩
      case inr =>
        simp only at h0
        have HQ : Hid (VF q p g w (.panicked [thrown er2]) w3) := by
          rw [HV3.out, if_pos h0]
          exact .inr ⟨h0, rfl, HC4.out.touch.trans t3, _, _, R3⟩
        clear R3 t3 HK HOk2 HV3 HC4
        go_wp2
        exact ⟨rfl, HQ.out⟩
      case inl =>
      simp only at h0 R3
      subst h0
      obtain ⟨hk1, hk2⟩ := HOk2.out rfl
      have HV4 : Hid (q = vSteps gg (la + dn) (rs ++ [⟨la + dn, kn⟩]) rest3) := by rw [Hid, HV3.out, if_neg (by simp)]
      have HC5 := HC4.out.on hplt t3
      obtain ⟨v5, w5, hrun, ho5, hg5, hb5⟩ := run_appendC (w3.alloc (ckO ⟨la + dn, kn⟩)) (.slice ao3 j cap3) rs (ownC_touch HC5.owns ((Touch.refl (fun _ => False) w3).alloc _) (fun _ _ => id)) (some ⟨w3.heap.size, 0, none⟩) 1 1 [⟨la + dn, kn⟩] rfl (fun h => by cases h) (LiesC.new w3 ⟨la + dn, kn⟩) (by have := HJ.out; simp; omega)
      have tw : Touch (fun i => (Value.slice ao3 j cap3).ownBlock = some i) w3 w5 := ((Touch.refl _ w3).alloc _).grown hg5 (fun i e _ => e)
      have HQ : Hid (ReadC w w5 p v5 (rs ++ [⟨la + dn, kn⟩]) ∧ Rd w5 p g rest3 0) := by
        refine ⟨⟨ho5, ?_, ?_⟩, ?_⟩
        · exact HC5.touch.then tw fun i hi e => absurd hi (Nat.not_lt.2 (HC5.fresh i e))
        · intro k hk
          rcases hb5 with e | e
          · exact HC5.fresh k (e ▸ hk)
          · rw [hk] at e
            have := HC5.touch.size
            simp at e
            omega
        · refine R3.keep tw (fun e => ?_) (fun _ e => ?_)
          · have := HC5.fresh p e; omega
          · have := HC5.fresh g e; omega
      obtain ⟨ao5, cap5, hv5⟩ := HQ.out.1.shape
      have hl5 : (rs ++ [(⟨la + dn, kn⟩ : Ck)]).length = j + 1 := by simp [HJ.out]
      rw [hl5] at hv5
      subst hv5
      clear ho5 hg5 hb5 tw R3 t3 HC5 HC4 HK hl5 HOk2 HV3
      simp only
      go_wp2_with (at_builtin; refine wpList_append_runC rfl _ _ rfl _ _ _ rfl rfl hrun ?_)
      go_roundg gg
      case measure => omega
      case rel =>
        refine ⟨j + 1, la + dn, _, rest3, by omega, by go_num, by go_num, by omega, ⟨HV4.out, HQ.out⟩, by simp [Hid, HJ.out], ⟨_, _, rfl⟩⟩
    · have hjl : j = N := by omega
      subst hjl
      obtain rfl : gk = 0 := by omega
      have HQ : Hid (VF q p g w (.returned (.slice ao3 j cap3)) wx) := by
        obtain ⟨e1, e2, e3⟩ := H.out
        rw [e1]
        exact .inl ⟨rfl, _, rfl, e2, e3⟩
      clear H HV
      go_wp2_with fail
      refine bodyPost_ret (v := .slice ao3 j cap3) (by simp [results, Tryz.results35, go_sem]) rfl ?_
      exact HQ.out
end Go.Proofs.YtdblfabbmpdoiaaGreat
