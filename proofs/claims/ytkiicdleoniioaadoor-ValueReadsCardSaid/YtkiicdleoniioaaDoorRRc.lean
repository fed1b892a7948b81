/- The contracts of quireref1.Reader: Fixed, Text, Fail. -/
import Derived.Test.YtkiicdleoniioaaDoorRRb
namespace Go.Proofs.YtkiicdleoniioaaDoor
open Go.RowKit
set_option linter.unusedVariables false
set_option linter.unusedSimpArgs false
set_option maxRecDepth 100000

set_option maxHeartbeats 800000 in
theorem refFixed_any (s g : Nat) (bs : List UInt8) (er : Int) (w : World) (h : RR w s g bs er) :
    Calls Tryd.prog 29 #[.pointer (some ⟨s, 0, none⟩)] w (ROut s g (rdFixed bs er) w) := by
  by_cases he : er = 0
  case neg =>
    have HT : Hid (Calls Tryd.prog 55 #[.pointer (some ⟨s, 0, none⟩), .int .i64 8] w _) := refTake_er s g 8 bs er w h he 8
    have HQ : Hid (ROut s g (rdFixed bs er) w (.returned (.int .u64 0)) w) := by
      have e : rdFixed bs er = (er, .int .u64 0, bs) := by unfold rdFixed outcome; rw [if_pos he]
      rw [Hid, e]; exact ⟨rfl, h, Touch.refl _ _⟩
    clear h
    go_enter Tryd.func29, Tryd.ntmps29
    go_wp2_with fail
    refine HT.out.mono ?_
    rintro e w1 ⟨rfl, rfl⟩
    go_wp2_with fail
    go_loopw [3, 5] (fun n i wr => i = .int .i64 0 ∧ n = .int .u64 0 ∧ wr = w1) (fun i _ _ => 0)
    case atStart => exact ⟨rfl, rfl, rfl⟩
    case round =>
      obtain ⟨rfl, rfl, hw⟩ := hrel
      rw [hw]
      go_wp2_with fail
      go_ret
      exact HQ.out
  subst he
  by_cases h8 : bs.length < 8
  · have HT : Hid (Calls Tryd.prog 55 #[.pointer (some ⟨s, 0, none⟩), .int .i64 8] w _) := refTake_short s g 8 bs w h h8 8 rfl
    have HQ : Hid (ROut s g (rdFixed bs 0) w (.returned (.int .u64 0)) (w.setCell ⟨s, 1, none⟩ (.int .i64 10))) := by
      have e : rdFixed bs 0 = (10, .int .u64 0, bs) := by unfold rdFixed outcome; rw [if_pos h8]; simp
      rw [Hid, e]; exact ⟨rfl, h.fails 10, (Touch.refl _ _).setCell _ _ fun _ => rfl⟩
    clear h
    go_enter Tryd.func29, Tryd.ntmps29
    go_wp2_with fail
    refine HT.out.mono ?_
    rintro e w1 ⟨rfl, hw1⟩
    rw [← hw1] at HQ
    clear hw1
    go_wp2_with fail
    go_loopw [3, 5] (fun n i wr => i = .int .i64 0 ∧ n = .int .u64 0 ∧ wr = w1) (fun i _ _ => 0)
    case atStart => exact ⟨rfl, rfl, rfl⟩
    case round =>
      obtain ⟨rfl, rfl, hw⟩ := hrel
      rw [hw]
      go_wp2_with fail
      go_ret
      exact HQ.out
  · have HT : Hid (Calls Tryd.prog 55 #[.pointer (some ⟨s, 0, none⟩), .int .i64 8] w _) := refTake_ok s g 8 bs w h (by omega) 8 rfl
    have hl8 : (bs.take 8).length = 8 := by simp; omega
    have HE : Hid (rdFixed bs 0 = (0, .int .u64 (be (bs.take 8)), bs.drop 8)) := by unfold rdFixed outcome Hid; rw [if_neg h8]; simp
    clear h
    go_enter Tryd.func29, Tryd.ntmps29
    go_wp2_with fail
    refine HT.out.mono ?_
    rintro e w1 ⟨ao, cap, rfl, hL, hR, hT⟩
    rcases hL with hL | ⟨off, rfl, hL⟩
    · rw [hL] at hl8; simp at hl8
    have HX : Hid (RR w1 s g (bs.drop 8) 0 ∧ Touch (· = s) w w1) := ⟨hR, hT⟩
    generalize bs.take 8 = l at *
    clear HT hR hT
    go_wp2_with fail
    go_loopw [3, 5] (fun n i wr => ∃ k : Nat, k ≤ 8 ∧ i = .int .i64 k ∧ n = .int .u64 (be (l.take k)) ∧ wr = w1) (fun n i _ => (8 - intOf i).toNat)
    case atStart => exact ⟨0, by omega, rfl, rfl, rfl⟩
    case round =>
      obtain ⟨k, hk, rfl, rfl, hw⟩ := hrel
      rw [hw]
      clear hw
      by_cases hk8 : k < 8
      · have hc : w1.cell? ⟨g, off + k, none⟩ = some (.int .u8 (l[k]'(by omega)).toNat) := hL k (by omega)
        have HS : Hid (bits .or .u64 (IntKind.u64.wrap ((be (l.take k) : Int) * 256)) (IntKind.u64.wrap ((l[k]'(by omega)).toNat : Int)) = ((be (l.take (k + 1)) : Nat) : Int)) := be_step l k hl8 hk8
        go_wp2_with fail
        go_roundw
        case rel => exact ⟨k + 1, by omega, by go_num, by rw [HS.out], by first | rfl | trivial⟩
        case measure => simp [intOf]; omega
      · have HQ : Hid (ROut s g (rdFixed bs 0) w (.returned (.int .u64 (be (l.take k)))) w1) := by
          rw [List.take_of_length_le (by omega), Hid, HE.out]
          exact ⟨rfl, HX.out⟩
        go_wp2_with fail
        go_ret
        exact HQ.out

set_option maxHeartbeats 1600000 in
theorem refText_any (s g : Nat) (bs : List UInt8) (er : Int) (w : World) (h : RR w s g bs er) :
    Calls Tryd.prog 31 #[.pointer (some ⟨s, 0, none⟩), .int .i64 4096] w (ROut s g (rdText bs er 4096) w) := by
  have HT : Hid (Calls Tryd.prog 56 #[.pointer (some ⟨s, 0, none⟩), .int .u64 4096] w _) := refUint_any s g bs er 4096 w h (by decide) 4096 rfl
  have HR : Hid (RR w s g bs er) := h
  obtain ⟨ao, cap, hp, hl, hc, hL⟩ := h
  have c0 : w.cell? ⟨s, 0, none⟩ = some (.slice ao bs.length cap) := by rw [cell_of_block hp]; rfl
  have HP : Hid (w.heap[s]? = some (.cells #[.slice ao bs.length cap, .int .i64 er] 28 (0, 0)) ∧ Lies w g ao bs ∧ bs.length ≤ cap ∧ cap ≤ 9223372036854775807) := ⟨hp, hL, hl, hc⟩
  clear hp hL
  unfold RUPost at HT
  have HE : Hid (rdText bs er 4096 = if er ≠ 0 then (er, .string ByteArray.empty, bs) else outcome 0 (textErr bs 4096) bs ((rdU bs 4096).2.2.drop (rdU bs 4096).2.1) (.string ByteArray.empty) (.string ⟨((rdU bs 4096).2.2.take (rdU bs 4096).2.1).toArray⟩)) := by
    rw [Hid, rdText_eq]; unfold outcome
    split
    · rfl
    · simp
  by_cases he : er = 0
  case neg =>
    have hU : rdUint bs er 4096 = (er, 0, bs) := by unfold rdUint; rw [if_pos he]
    rw [hU] at HT
    have hz : (er == 0) = false := by simpa using he
    have HE' : Hid (rdText bs er 4096 = (er, .string ByteArray.empty, bs)) := by rw [Hid, HE.out, if_pos he]
    clear HE hU
    go_enter Tryd.func31, Tryd.ntmps31
    go_wp2_with fail
    refine HT.out.mono ?_
    rintro e w1 ⟨rfl, hR, hT⟩
    have HQ : Hid (ROut s g (rdText bs er 4096) w (.returned (.string ⟨#[]⟩)) w1) := by rw [Hid, HE'.out]; exact ⟨rfl, hR, hT⟩
    obtain ⟨ao1, cap1, hp1, _⟩ := hR
    have c1 : w1.cell? ⟨s, 1, none⟩ = some (.int .i64 er) := by rw [cell_of_block hp1]; rfl
    clear hp1 hT HT HE'
    go_wp2_with fail
    go_ret
    exact HQ.out
  subst he
  have hU : rdUint bs 0 4096 = rdU bs 4096 := by unfold rdUint; rw [if_neg (by simp)]
  rw [hU] at HT
  have HE' : Hid (rdText bs 0 4096 = outcome 0 (textErr bs 4096) bs ((rdU bs 4096).2.2.drop (rdU bs 4096).2.1) (.string ByteArray.empty) (.string ⟨((rdU bs 4096).2.2.take (rdU bs 4096).2.1).toArray⟩)) := by rw [Hid, HE.out, if_neg (by simp)]
  have hm := rdU_le bs 4096
  have hbs : (rdU bs 4096).1 ≠ 0 → (rdU bs 4096).2.2 = bs := by
    intro h0
    unfold rdU at h0 ⊢
    split
    · rfl
    · split
      · rfl
      · rename_i h1 h2; rw [if_neg h1, if_neg h2] at h0; exact absurd rfl h0
  clear HE hU
  unfold textErr at HE'
  generalize rdU bs 4096 = r0 at *
  obtain ⟨x0, V, cs0⟩ := r0
  simp only at HT HE' hm hbs
  by_cases h0 : x0 = 0
  case neg =>
    have hz : (x0 == 0) = false := by simpa using h0
    have hb := hbs h0
    subst hb
    have HQ' : Hid (rdText cs0 0 4096 = (x0, .string ByteArray.empty, cs0)) := by
      rw [Hid, HE'.out, if_pos h0]; unfold outcome; simp [h0]
    clear HE' hbs
    go_enter Tryd.func31, Tryd.ntmps31
    go_wp2_with fail
    refine HT.out.mono ?_
    rintro e w1 ⟨rfl, hR, hT⟩
    have HQ : Hid (ROut s g (rdText cs0 0 4096) w (.returned (.string ⟨#[]⟩)) w1) := by rw [Hid, HQ'.out]; exact ⟨rfl, hR, hT⟩
    obtain ⟨ao1, cap1, hp1, _⟩ := hR
    have c1 : w1.cell? ⟨s, 1, none⟩ = some (.int .i64 x0) := by rw [cell_of_block hp1]; rfl
    clear hp1 hT HT HQ'
    go_wp2_with fail
    go_ret
    exact HQ.out
  subst h0
  clear hbs
  go_enter Tryd.func31, Tryd.ntmps31
  go_wp2_with fail
  refine HT.out.mono ?_
  rintro e w1 ⟨rfl, hR, hT⟩
  have HR1 : Hid (RR w1 s g cs0 0) := hR
  have HT1 : Hid (Touch (· = s) w w1) := hT
  obtain ⟨ao1, cap1, hp1, hl1, hc1, hL1⟩ := hR
  have c1 : w1.cell? ⟨s, 1, none⟩ = some (.int .i64 0) := by rw [cell_of_block hp1]; rfl
  clear hT HT hp1 hL1 hl1 hc1
  by_cases hV : cs0.length < V
  · have HQ' : Hid (rdText bs 0 4096 = (10, .string ByteArray.empty, bs)) := by
      rw [Hid, HE'.out, if_neg (by simp), if_pos hV]; unfold outcome; simp
    have HK : Hid (Calls Tryd.prog 55 #[.pointer (some ⟨s, 0, none⟩), .int .i64 V] w1 _) := refTake_short s g V cs0 w1 HR1.out hV V rfl
    have hw : wrap64 (V : Int) = (V : Int) := by rw [wrap64]; omega
    clear HE'
    go_wp2_with fail
    refine HK.out.mono ?_
    rintro e w2 ⟨rfl, hw2⟩
    have hR2 := HR1.out.fails 10
    rw [← hw2] at hR2
    have hT2 : Touch (· = s) w w2 := by rw [hw2]; exact HT1.out.setCell _ _ fun _ => rfl
    obtain ⟨ao2, cap2, hp2, _⟩ := hR2
    have d0 : w2.cell? ⟨s, 0, none⟩ = some (.slice ao2 cs0.length cap2) := by rw [cell_of_block hp2]; rfl
    have d1 : w2.cell? ⟨s, 1, none⟩ = some (.int .i64 10) := by rw [cell_of_block hp2]; rfl
    have z0 : w2.frozen? ⟨s, 0, none⟩ = false := free_of_block hp2
    have hcv : ∀ W, (convert 22 9 (.slice none 0 0)).run Tryd.prog W = .ok (.string ⟨#[]⟩) W := fun W => lies_string (w := W) (g := 0) (.inl rfl) 0 0 rfl
    have HQ : Hid (ROut s g (rdText bs 0 4096) w (.returned (.string ⟨#[]⟩)) (w2.setCell ⟨s, 0, none⟩ (.slice ao bs.length cap))) := by
      rw [Hid, HQ'.out]
      refine ⟨rfl, ⟨ao, cap, by rw [heap_setCell_same _ _ _ _ hp2]; rfl, HP.out.2.2.1, HP.out.2.2.2, ?_⟩, hT2.setCell _ _ fun _ => rfl⟩
      refine HP.out.2.1.keep fun e => ?_
      have hne := HR.out.ne e
      rw [heap_setCell_other _ _ _ _ hne]
      exact hT2.block g (HP.out.2.1.lt e) (Ne.symm hne)
    clear hp2 hT2 hw2 HQ' HK HR1 HT1
    go_wp2_with fail
    go_ret
    exact HQ.out
  · have HQ' : Hid (rdText bs 0 4096 = (0, .string ⟨(cs0.take V).toArray⟩, cs0.drop V)) := by
      rw [Hid, HE'.out, if_neg (by simp), if_neg hV]; unfold outcome; simp
    have HK : Hid (Calls Tryd.prog 55 #[.pointer (some ⟨s, 0, none⟩), .int .i64 V] w1 _) := refTake_ok s g V cs0 w1 HR1.out (by omega) V rfl
    have hw : wrap64 (V : Int) = (V : Int) := by rw [wrap64]; omega
    have hVl : V = (cs0.take V).length := by simp; omega
    have HVl : Hid (V = (cs0.take V).length) := hVl
    clear HE' hVl
    go_wp2_with fail
    refine HK.out.mono ?_
    rintro e w2 ⟨ao2, cap2, rfl, hL2, hR2, hT2⟩
    have hcv := lies_string hL2 V cap2 HVl.out
    have HQ : Hid (ROut s g (rdText bs 0 4096) w (.returned (.string ⟨(cs0.take V).toArray⟩)) w2) := by
      rw [Hid, HQ'.out]
      exact ⟨rfl, hR2, HT1.out.trans hT2⟩
    obtain ⟨ao3, cap3, hp2, _⟩ := hR2
    have d1 : w2.cell? ⟨s, 1, none⟩ = some (.int .i64 0) := by rw [cell_of_block hp2]; rfl
    clear hp2 hT2 hL2 HQ' HK HR1 HT1
    go_wp2_with fail
    go_ret
    exact HQ.out

set_option maxHeartbeats 400000 in
theorem refFail0 (s g : Nat) (bs : List UInt8) (w : World) (h : RR w s g bs 0) (x : Int) :
    Calls Tryd.prog 30 #[.pointer (some ⟨s, 0, none⟩), .int .i64 x] w fun e w' => e = .returned (.tuple #[]) ∧ w' = w.setCell ⟨s, 1, none⟩ (.int .i64 x) := by
  obtain ⟨ao, cap, hp, hl, hc, hL⟩ := h
  have c1 : w.cell? ⟨s, 1, none⟩ = some (.int .i64 0) := by rw [cell_of_block hp]; rfl
  have f1 : w.frozen? ⟨s, 1, none⟩ = false := free_of_block hp
  clear hp hL
  go_enter Tryd.func30, Tryd.ntmps30
  go_wp2_with fail
  go_end0
  exact ⟨rfl, rfl⟩
set_option maxHeartbeats 400000 in
theorem refFailed (s g : Nat) (bs : List UInt8) (er : Int) (w : World) (h : RR w s g bs er) (he : er ≠ 0) (x : Int) :
    Calls Tryd.prog 30 #[.pointer (some ⟨s, 0, none⟩), .int .i64 x] w fun e w' => e = .returned (.tuple #[]) ∧ w' = w := by
  obtain ⟨ao, cap, hp, hl, hc, hL⟩ := h
  have c1 : w.cell? ⟨s, 1, none⟩ = some (.int .i64 er) := by rw [cell_of_block hp]; rfl
  have h1 : (er == 0) = false := by simpa using he
  clear hp hL
  go_enter Tryd.func30, Tryd.ntmps30
  go_wp2_with fail
  go_end0
  exact ⟨rfl, rfl⟩
/-- Fail: the first error stands. -/
theorem refFail_full (s g : Nat) (bs : List UInt8) (er : Int) (w : World) (h : RR w s g bs er) (x : Int) :
    Calls Tryd.prog 30 #[.pointer (some ⟨s, 0, none⟩), .int .i64 x] w fun e w' => e = .returned (.tuple #[]) ∧ RR w' s g bs (if er = 0 then x else er) ∧ Touch (· = s) w w' := by
  by_cases he : er = 0
  · subst he
    refine (refFail0 s g bs w h x).mono ?_
    rintro e w' ⟨rfl, rfl⟩
    exact ⟨rfl, by simpa using h.fails x, (Touch.refl _ _).setCell _ _ fun _ => rfl⟩
  · refine (refFailed s g bs er w h he x).mono ?_
    rintro e w' ⟨rfl, rfl⟩
    exact ⟨rfl, by simpa [he] using h, Touch.refl _ _⟩
end Go.Proofs.YtkiicdleoniioaaDoor
