/- ops.Join of texts that are one row. -/
import Derived.Test.YtmknkecaeagmbaaGreatDoorPieceO
import Derived.Test.YtmknkecaeagmbaaGreatDoorJoinN
import Derived.Test.YtmknkecaeagmbaaGreatDoorRowL
namespace Go.Proofs.YtmknkecaeagmbaaGreatDoor
open Go.RowKit Go.Maps
set_option linter.unusedVariables false
set_option linter.unusedSimpArgs false
set_option maxRecDepth 100000

set_option maxHeartbeats 4000000 in
theorem join_any (l : List O) (a : O) (t : List O) (f : Nat) (v : Value) (w : World) (hU : TabsU w) (hsl : SlP w v l) (hl : l.length ≤ 1048576) (hz : Sized l) (hp : (a :: t).Perm (l.filter checkB)) (ha : TextO a) (hc : Chain a (lenO a) t) (hf : ((a :: t).flatMap rsO).length ≤ 4096 * (f + 1)) (hf2 : f ≤ 1048576) :
    Calls Tryz.prog 23 #[v] w fun e w' => ∃ v', e = .returned v' ∧ NewP w w' v' (chunks (f + 1) a ((a :: t).flatMap rsO)) := by
  have hsub : ∀ x ∈ a :: t, x ∈ l := fun x hx => (List.mem_filter.1 (hp.subset hx)).1
  have hzs : Sized (a :: t) := fun x hx => hz x (hsub x hx)
  have hls : (a :: t).length ≤ 1048576 := by have := hp.length_eq; have := List.length_filter_le checkB l; omega
  obtain ⟨p0, ps, hP, hp0, hpc⟩ := row_chunks a t ha hc f hf
  obtain ⟨ao, cap, rfl, _⟩ := hsl.shape
  have HRO : Hid (Calls Tryz.prog 50 #[.slice ao l.length cap] w fun e w' => ∃ v', e = .returned v' ∧ NewP w w' v' (a :: t)) := rightOnes_any l (a :: t) _ w hU hsl hl hz (by simp) hp (row_order ha hc)
  have HRL : Hid (∀ (W : World) (v : Value), Touch (fun _ => False) w W → SlP W v (a :: t) → Calls Tryz.prog 51 #[v] W fun e w' => e = .returned (.int .i64 ((a :: t).length : Int)) ∧ Touch (fun _ => False) W w') := fun W v tt hv => rowLen_any (a :: t) (by simp) v W (hU.keep tt) hv (by omega) (fun x hx => by have := (hzs x hx).1; omega) (row_goes ha hc)
  have HPC : Hid (∀ (W : World) (v : Value), Touch (fun _ => False) w W → SlP W v (a :: t) → Calls Tryz.prog 52 #[v] W fun e w' => ∃ v', e = .returned v' ∧ NewP W w' v' (chunks (f + 1) a ((a :: t).flatMap rsO))) := fun W v tt hv => by
    have := pieces_any (a :: t) (by simp) a.k (fun _ => rfl) p0 ps hP hp0 (row_texts a.k ha hc) v W (hU.keep tt) hv hls hzs
    rw [hpc] at this
    exact this
  have HIO : Hid (∀ (W : World) (v : Value), SlP W v (chunks (f + 1) a ((a :: t).flatMap rsO)) → Calls Tryz.prog 53 #[v] W fun e w' => ∃ v', e = .returned v' ∧ NewP W w' v' (chunks (f + 1) a ((a :: t).flatMap rsO))) := fun W v hv => by
    refine (inOrder_any _ (chunks_ne f a _) v W hv (by have := chunks_len (f + 1) a ((a :: t).flatMap rsO); omega)).mono ?_
    rintro e w' ⟨v', p, rfl, h1, h2, h3⟩
    rw [places_one _ _ p h1 h2 (List.Perm.refl _) (chunks_order _ _ _)] at h3
    exact ⟨v', rfl, h3⟩
  have hJl : (chunks (f + 1) a ((a :: t).flatMap rsO)).length ≤ 1048577 := by have := chunks_len (f + 1) a ((a :: t).flatMap rsO); omega
  clear hsub hzs hP hp0 hpc hsl hz hp ha hc hf hU
  generalize chunks (f + 1) a ((a :: t).flatMap rsO) = J at *
  have hs1 : 1 ≤ (a :: t).length := by simp
  generalize a :: t = s at *
  go_enter Tryz.func23, Tryz.ntmps23
  go_wp2_with fail
  refine HRO.out.mono ?_
  rintro e w1 ⟨v1, rfl, hN1⟩
  obtain ⟨ao1, cap1, rfl, hg1, hc1, hm1⟩ := hN1.shape
  have HN1 : Hid (NewP w w1 (.slice ao1 s.length cap1) s) := hN1
  clear hN1 HRO hg1
  go_wp2_with fail
  go_loopg [3, 4] 1 (fun gk s3 s4 wx => ∃ (aA aB : Option Addr) (nA nB cA cB : Nat), s3 = .slice aA nA cA ∧ s4 = .slice aB nB cB ∧ ((gk = 1 ∧ nA = s.length ∧ Hid (aA = ao1 ∧ cA = cap1 ∧ s4 = .slice none 0 0 ∧ wx = w1)) ∨ (gk = 0 ∧ nA = 0 ∧ Hid (NewP w wx s4 J))))
  case atStart => exact ⟨ao1, none, s.length, 0, cap1, 0, rfl, rfl, .inl ⟨rfl, rfl, rfl, rfl, rfl, rfl⟩⟩
  case round =>
    obtain ⟨aA, aB, nA, nB, cA, cB, rfl, rfl, hcase⟩ := hrel
    obtain ⟨wx, hwx⟩ : ∃ wx, wx = wr := ⟨_, rfl⟩
    subst hwx
    rcases hcase with ⟨rfl, rfl, HH⟩ | ⟨rfl, rfl, HJ⟩
    · obtain ⟨e1, e2, e3, e4⟩ := HH.out
      simp only [Value.slice.injEq] at e3
      obtain ⟨rfl, rfl, rfl⟩ := e3
      subst e1 e2 e4
      clear HH
      have i1 : (0 : Int) < (s.length : Int) := by omega
      have hsl1 : ∀ W, (Instr.slice 45 (.slice aA s.length cA) none (some (.int .i64 (s.length : Int))) none).run Tryz.prog W = .ok (.slice aA s.length cA) W := fun W => sliceP_to aA s.length cA s.length hc1 W
      have hsl2 : ∀ W, (Instr.slice 45 (.slice aA s.length cA) (some (.int .i64 (s.length : Int))) none none).run Tryz.prog W = .ok (.slice (if cA = s.length then aA else aA.map (·.add (s.length * 22))) (s.length - s.length) (cA - s.length)) W := fun W => sliceP_from aA s.length cA s.length (Nat.le_refl _) W
      rw [Nat.sub_self] at hsl2
      generalize (if cA = s.length then aA else aA.map (·.add (s.length * 22))) = aC at hsl2
      go_wp2_with fail
      refine (HRL.out _ _ HN1.out.touch HN1.out.sl).mono ?_
      rintro e W2 ⟨rfl, t2⟩
      have HT2 : Hid (Touch (fun _ => False) w W2 ∧ SlP W2 (.slice aA s.length cA) s) := ⟨HN1.out.touch.trans t2, HN1.out.sl.touch t2⟩
      clear t2
      go_wp2_with fail
      refine (HPC.out W2 _ HT2.out.1 HT2.out.2).mono ?_
      rintro e W3 ⟨v3, rfl, hN3⟩
      have hap := NewP.app (NewP.nil w W3 (HT2.out.1.trans hN3.touch))
      obtain ⟨ao3, cap3, rfl, hg3, hc3, hm3⟩ := hN3.shape
      have hno3 : ao3 = none → cap3 = 0 := by
        obtain ⟨ao9, cp9, e9, h9, _⟩ := hN3.sl.shape
        simp only [Value.slice.injEq] at e9
        rw [e9.1, e9.2.2]; exact h9
      have hL3 : LiesP W3 ao3 J := by
        obtain ⟨ao9, cp9, e9, h1, h2, h3, h4⟩ := hN3.sl
        simp only [Value.slice.injEq] at e9
        rw [e9.1]; exact h4
      obtain ⟨v4, w4, hrun, hN4, _⟩ := hap ao3 J.length cap3 J rfl hno3 hL3 (by simp; omega)
      rw [List.nil_append] at hN4
      have HN4 : Hid (NewP w w4 v4 J) := hN4
      obtain ⟨ao4, cap4, rfl, _⟩ := hN4.shape
      clear hap hN3 hN4 hno3 hL3 hg3 HT2
      go_wp2_with (at_builtin; refine wpList_append_runP rfl _ _ rfl _ _ _ rfl rfl hrun ?_)
      go_roundg 0
      case measure => omega
      case rel => exact ⟨aC, ao4, 0, J.length, cA - s.length, cap4, rfl, rfl, .inr ⟨rfl, rfl, HN4.out⟩⟩
    · go_wp2_with fail
      refine (HIO.out wx _ HJ.out.sl).mono ?_
      rintro e w6 ⟨v6, rfl, hN6⟩
      have HN6 : Hid (NewP w w6 v6 J) := hN6.since HJ.out.touch
      obtain ⟨ao6, cap6, rfl, _⟩ := hN6.shape
      clear hN6 HJ
      go_wp2_with fail
      go_ret
      exact ⟨_, rfl, HN6.out⟩
end Go.Proofs.YtmknkecaeagmbaaGreatDoor
