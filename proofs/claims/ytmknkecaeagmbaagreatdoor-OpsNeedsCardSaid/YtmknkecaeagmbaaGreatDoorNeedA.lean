/- ops.Needs. -/
import Derived.Test.YtmknkecaeagmbaaGreatDoorRowD
import Derived.Test.YtmknkecaeagmbaaGreatDoorOpZ
import Derived.Deep.LoopGhost
namespace Go.Proofs.YtmknkecaeagmbaaGreatDoor
open Go.RowKit Go.Maps
set_option linter.unusedVariables false
set_option linter.unusedSimpArgs false
set_option maxRecDepth 100000

def namesI (o : O) : List Ip := [⟨o.lc, o.lk⟩, ⟨o.rc, o.rk⟩, ⟨o.fc, o.fk⟩, ⟨o.tc, o.tk⟩, ⟨o.pc, o.pk⟩]
def needP (c : Int) (p : Ip) : Bool := !((p.c == 0) && (p.k == 0)) && (p.c != c)
def needsL (o : O) : List Ip := (namesI o).filter (needP o.c)
theorem need_step (c : Int) (l : List Ip) (i : Nat) (h : i < l.length) : (l.take (i + 1)).filter (needP c) = (l.take i).filter (needP c) ++ (if needP c l[i] then [l[i]] else []) := by
  rw [List.take_succ_eq_append_getElem h, List.filter_append]
  by_cases hc : needP c l[i] <;> simp [hc]
set_option maxHeartbeats 8000000 in
theorem needs_any (o : O) (hc : ¬ o.c = 0) (w : World) : Calls Tryz.prog 25 #[o.val] w fun e w' => ∃ v, e = .returned v ∧ NewD w w' v (needsL o) := by
  have HN : Hid (∀ W, Calls Tryz.prog 54 #[o.val] W fun e w' => e = .returned (.agg (namesA o)) ∧ Touch (fun _ => False) W w') := fun W => names_any o W
  have HC0 : Hid (¬ o.c = 0) := hc
  clear hc
  go_enter Tryz.func25, Tryz.ntmps25
  go_upto_region 1 with fail
  obtain ⟨W0, hW0⟩ : ∃ W0, Hid (W0 = w.alloc (opO o)) := ⟨_, Eq.refl _⟩
  have HW0 : Hid (Touch (fun _ => False) w W0 ∧ OpAt w.heap.size o W0) := by rw [hW0.out]; exact ⟨(Touch.refl _ _).alloc _, heap_alloc_new _ _⟩
  rw [← hW0.out]
  clear hW0
  go_upto_region 2 with fail
  refine wp_region_lit ?_
  refine wpList_load_mid rfl 31 (.tmp 1) rfl w.heap.size 0 rfl o.vals.toList _ (rangeAt_of HW0.out.2) Tryz.underlying31 rfl (by kernel_rfl) ?_
  simp only [Act.put, List.setIfInBounds_toArray, List.set_cons_succ, List.set_cons_zero]
  go_wp2_with fail
  refine (HN.out _).mono ?_
  rintro e W1 ⟨rfl, t⟩
  have HW1 : Hid (Touch (fun _ => False) w W1 ∧ OpAt w.heap.size o W1) := ⟨HW0.out.1.trans t, HW0.out.2.keep t⟩
  clear t HW0 HN
  go_wp2_with fail
  go_loopg [3, 8] 5 (fun gk s3 s8 wx => ∃ (i : Nat) (ao : Option Addr) (n cp : Nat), i + gk = 5 ∧ s3 = .slice ao n cp ∧ s8 = .int .i64 (i : Int) ∧ n ≤ i ∧ Hid (n = (((namesI o).take i).filter (needP o.c)).length ∧ NewD W1 wx (.slice ao n cp) (((namesI o).take i).filter (needP o.c))))
  case atStart => exact ⟨0, none, 0, 0, by omega, rfl, rfl, by omega, rfl, NewD.nil W1 W1 (Touch.refl _ _)⟩
  case round =>
    obtain ⟨i, ao, n, cp, hig, rfl, rfl, hni, HI⟩ := hrel
    obtain ⟨wx, hwx⟩ : ∃ wx, wx = wr := ⟨_, rfl⟩
    subst hwx
    rcases (by omega : i = 0 ∨ i = 1 ∨ i = 2 ∨ i = 3 ∨ i = 4 ∨ i = 5) with rfl | rfl | rfl | rfl | rfl | rfl
    · have hidx := idx0 o
      have HST : Hid (((namesI o).take (0 + 1)).filter (needP o.c) = ((namesI o).take 0).filter (needP o.c) ++ (if needP o.c ⟨o.lc, o.lk⟩ then [⟨o.lc, o.lk⟩] else [])) := need_step o.c (namesI o) 0 (by show 0 < 5; decide)
      have HO : Hid (OpAt w.heap.size o (wx.alloc (idO o.lc o.lk))) := HW1.out.2.keep (HI.out.2.touch.alloc _)
      have p0 := HO.out.q0
      clear HO
      by_cases hx : o.lc = 0
      · by_cases hy : o.lk = 0
        · have bx : (o.lc == 0) = true := by simpa using hx
          have bk : (o.lk == 0) = true := by simpa using hy
          clear hx hy
          have hP : needP o.c ⟨o.lc, o.lk⟩ = false := by unfold needP; simp only [bx, bk]; rfl
          have HI2 : Hid (n = (((namesI o).take (0 + 1)).filter (needP o.c)).length ∧ NewD W1 (wx.alloc (idO o.lc o.lk)) (.slice ao n cp) (((namesI o).take (0 + 1)).filter (needP o.c))) := by
            rw [HST.out, hP]
            simp only [Bool.false_eq_true, if_false, List.append_nil]
            exact ⟨HI.out.1, HI.out.2.on ((Touch.refl _ _).alloc _)⟩
          clear HI HST hP
          go_wp2_with fail
          go_roundg (5 - (0 + 1))
          case measure => omega
          case rel => exact ⟨0 + 1, ao, n, cp, by omega, rfl, by go_num, by omega, HI2.out⟩
        · have bx : (o.lc == 0) = true := by simpa using hx
          have bk : (o.lk == 0) = false := by simpa using hy
          have bo : (o.lc == o.c) = false := by rw [hx]; have := HC0.out; simp; omega
          have bo2 : (o.lc != o.c) = true := by rw [bne, bo]; rfl
          clear hx hy
          have hP : needP o.c ⟨o.lc, o.lk⟩ = true := by unfold needP; simp only [bx, bk, bo2]; rfl
          obtain ⟨v5, w5, hrun, hN5, _⟩ := NewD.app1 (HI.out.2.on ((Touch.refl _ _).alloc (idO o.lc o.lk))) ⟨o.lc, o.lk⟩ (by rw [← HI.out.1]; omega)
          have HI2 : Hid ((n + 1) = (((namesI o).take (0 + 1)).filter (needP o.c)).length ∧ NewD W1 w5 v5 (((namesI o).take (0 + 1)).filter (needP o.c))) := by
            rw [HST.out, hP]
            simp only [if_true]
            exact ⟨by rw [List.length_append, ← HI.out.1]; rfl, hN5⟩
          obtain ⟨ao5, cap5, hv5, _⟩ := hN5.shape
          have hv6 : v5 = .slice ao5 (n + 1) cap5 := by rw [hv5, List.length_append, ← HI.out.1]; rfl
          subst hv6
          rw [World.size_alloc] at hrun
          clear hv5 hN5 HI HST hP
          go_wp2_with (at_builtin; refine wpList_append_runD rfl _ _ rfl _ _ _ rfl rfl hrun ?_)
          go_roundg (5 - (0 + 1))
          case measure => omega
          case rel => exact ⟨0 + 1, ao5, n + 1, cap5, by omega, rfl, by go_num, by omega, HI2.out⟩
      · have bx : (o.lc == 0) = false := by simpa using hx
        by_cases ho : o.lc = o.c
        · have bo : (o.lc == o.c) = true := by simpa using ho
          have bo2 : (o.lc != o.c) = false := by rw [bne, bo]; rfl
          clear hx ho
          have hP : needP o.c ⟨o.lc, o.lk⟩ = false := by unfold needP; simp only [bx, bo2]; rfl
          have HI2 : Hid (n = (((namesI o).take (0 + 1)).filter (needP o.c)).length ∧ NewD W1 (wx.alloc (idO o.lc o.lk)) (.slice ao n cp) (((namesI o).take (0 + 1)).filter (needP o.c))) := by
            rw [HST.out, hP]
            simp only [Bool.false_eq_true, if_false, List.append_nil]
            exact ⟨HI.out.1, HI.out.2.on ((Touch.refl _ _).alloc _)⟩
          clear HI HST hP
          go_wp2_with fail
          go_roundg (5 - (0 + 1))
          case measure => omega
          case rel => exact ⟨0 + 1, ao, n, cp, by omega, rfl, by go_num, by omega, HI2.out⟩
        · have bo : (o.lc == o.c) = false := by simpa using ho
          have bo2 : (o.lc != o.c) = true := by rw [bne, bo]; rfl
          clear hx ho
          have hP : needP o.c ⟨o.lc, o.lk⟩ = true := by unfold needP; simp only [bx, bo2]; rfl
          obtain ⟨v5, w5, hrun, hN5, _⟩ := NewD.app1 (HI.out.2.on ((Touch.refl _ _).alloc (idO o.lc o.lk))) ⟨o.lc, o.lk⟩ (by rw [← HI.out.1]; omega)
          have HI2 : Hid ((n + 1) = (((namesI o).take (0 + 1)).filter (needP o.c)).length ∧ NewD W1 w5 v5 (((namesI o).take (0 + 1)).filter (needP o.c))) := by
            rw [HST.out, hP]
            simp only [if_true]
            exact ⟨by rw [List.length_append, ← HI.out.1]; rfl, hN5⟩
          obtain ⟨ao5, cap5, hv5, _⟩ := hN5.shape
          have hv6 : v5 = .slice ao5 (n + 1) cap5 := by rw [hv5, List.length_append, ← HI.out.1]; rfl
          subst hv6
          rw [World.size_alloc] at hrun
          clear hv5 hN5 HI HST hP
          go_wp2_with (at_builtin; refine wpList_append_runD rfl _ _ rfl _ _ _ rfl rfl hrun ?_)
          go_roundg (5 - (0 + 1))
          case measure => omega
          case rel => exact ⟨0 + 1, ao5, n + 1, cap5, by omega, rfl, by go_num, by omega, HI2.out⟩
    · have hidx := idx1 o
      have HST : Hid (((namesI o).take (1 + 1)).filter (needP o.c) = ((namesI o).take 1).filter (needP o.c) ++ (if needP o.c ⟨o.rc, o.rk⟩ then [⟨o.rc, o.rk⟩] else [])) := need_step o.c (namesI o) 1 (by show 1 < 5; decide)
      have HO : Hid (OpAt w.heap.size o (wx.alloc (idO o.rc o.rk))) := HW1.out.2.keep (HI.out.2.touch.alloc _)
      have p0 := HO.out.q0
      clear HO
      by_cases hx : o.rc = 0
      · by_cases hy : o.rk = 0
        · have bx : (o.rc == 0) = true := by simpa using hx
          have bk : (o.rk == 0) = true := by simpa using hy
          clear hx hy
          have hP : needP o.c ⟨o.rc, o.rk⟩ = false := by unfold needP; simp only [bx, bk]; rfl
          have HI2 : Hid (n = (((namesI o).take (1 + 1)).filter (needP o.c)).length ∧ NewD W1 (wx.alloc (idO o.rc o.rk)) (.slice ao n cp) (((namesI o).take (1 + 1)).filter (needP o.c))) := by
            rw [HST.out, hP]
            simp only [Bool.false_eq_true, if_false, List.append_nil]
            exact ⟨HI.out.1, HI.out.2.on ((Touch.refl _ _).alloc _)⟩
          clear HI HST hP
          go_wp2_with fail
          go_roundg (5 - (1 + 1))
          case measure => omega
          case rel => exact ⟨1 + 1, ao, n, cp, by omega, rfl, by go_num, by omega, HI2.out⟩
        · have bx : (o.rc == 0) = true := by simpa using hx
          have bk : (o.rk == 0) = false := by simpa using hy
          have bo : (o.rc == o.c) = false := by rw [hx]; have := HC0.out; simp; omega
          have bo2 : (o.rc != o.c) = true := by rw [bne, bo]; rfl
          clear hx hy
          have hP : needP o.c ⟨o.rc, o.rk⟩ = true := by unfold needP; simp only [bx, bk, bo2]; rfl
          obtain ⟨v5, w5, hrun, hN5, _⟩ := NewD.app1 (HI.out.2.on ((Touch.refl _ _).alloc (idO o.rc o.rk))) ⟨o.rc, o.rk⟩ (by rw [← HI.out.1]; omega)
          have HI2 : Hid ((n + 1) = (((namesI o).take (1 + 1)).filter (needP o.c)).length ∧ NewD W1 w5 v5 (((namesI o).take (1 + 1)).filter (needP o.c))) := by
            rw [HST.out, hP]
            simp only [if_true]
            exact ⟨by rw [List.length_append, ← HI.out.1]; rfl, hN5⟩
          obtain ⟨ao5, cap5, hv5, _⟩ := hN5.shape
          have hv6 : v5 = .slice ao5 (n + 1) cap5 := by rw [hv5, List.length_append, ← HI.out.1]; rfl
          subst hv6
          rw [World.size_alloc] at hrun
          clear hv5 hN5 HI HST hP
          go_wp2_with (at_builtin; refine wpList_append_runD rfl _ _ rfl _ _ _ rfl rfl hrun ?_)
          go_roundg (5 - (1 + 1))
          case measure => omega
          case rel => exact ⟨1 + 1, ao5, n + 1, cap5, by omega, rfl, by go_num, by omega, HI2.out⟩
      · have bx : (o.rc == 0) = false := by simpa using hx
        by_cases ho : o.rc = o.c
        · have bo : (o.rc == o.c) = true := by simpa using ho
          have bo2 : (o.rc != o.c) = false := by rw [bne, bo]; rfl
          clear hx ho
          have hP : needP o.c ⟨o.rc, o.rk⟩ = false := by unfold needP; simp only [bx, bo2]; rfl
          have HI2 : Hid (n = (((namesI o).take (1 + 1)).filter (needP o.c)).length ∧ NewD W1 (wx.alloc (idO o.rc o.rk)) (.slice ao n cp) (((namesI o).take (1 + 1)).filter (needP o.c))) := by
            rw [HST.out, hP]
            simp only [Bool.false_eq_true, if_false, List.append_nil]
            exact ⟨HI.out.1, HI.out.2.on ((Touch.refl _ _).alloc _)⟩
          clear HI HST hP
          go_wp2_with fail
          go_roundg (5 - (1 + 1))
          case measure => omega
          case rel => exact ⟨1 + 1, ao, n, cp, by omega, rfl, by go_num, by omega, HI2.out⟩
        · have bo : (o.rc == o.c) = false := by simpa using ho
          have bo2 : (o.rc != o.c) = true := by rw [bne, bo]; rfl
          clear hx ho
          have hP : needP o.c ⟨o.rc, o.rk⟩ = true := by unfold needP; simp only [bx, bo2]; rfl
          obtain ⟨v5, w5, hrun, hN5, _⟩ := NewD.app1 (HI.out.2.on ((Touch.refl _ _).alloc (idO o.rc o.rk))) ⟨o.rc, o.rk⟩ (by rw [← HI.out.1]; omega)
          have HI2 : Hid ((n + 1) = (((namesI o).take (1 + 1)).filter (needP o.c)).length ∧ NewD W1 w5 v5 (((namesI o).take (1 + 1)).filter (needP o.c))) := by
            rw [HST.out, hP]
            simp only [if_true]
            exact ⟨by rw [List.length_append, ← HI.out.1]; rfl, hN5⟩
          obtain ⟨ao5, cap5, hv5, _⟩ := hN5.shape
          have hv6 : v5 = .slice ao5 (n + 1) cap5 := by rw [hv5, List.length_append, ← HI.out.1]; rfl
          subst hv6
          rw [World.size_alloc] at hrun
          clear hv5 hN5 HI HST hP
          go_wp2_with (at_builtin; refine wpList_append_runD rfl _ _ rfl _ _ _ rfl rfl hrun ?_)
          go_roundg (5 - (1 + 1))
          case measure => omega
          case rel => exact ⟨1 + 1, ao5, n + 1, cap5, by omega, rfl, by go_num, by omega, HI2.out⟩
    · have hidx := idx2 o
      have HST : Hid (((namesI o).take (2 + 1)).filter (needP o.c) = ((namesI o).take 2).filter (needP o.c) ++ (if needP o.c ⟨o.fc, o.fk⟩ then [⟨o.fc, o.fk⟩] else [])) := need_step o.c (namesI o) 2 (by show 2 < 5; decide)
      have HO : Hid (OpAt w.heap.size o (wx.alloc (idO o.fc o.fk))) := HW1.out.2.keep (HI.out.2.touch.alloc _)
      have p0 := HO.out.q0
      clear HO
      by_cases hx : o.fc = 0
      · by_cases hy : o.fk = 0
        · have bx : (o.fc == 0) = true := by simpa using hx
          have bk : (o.fk == 0) = true := by simpa using hy
          clear hx hy
          have hP : needP o.c ⟨o.fc, o.fk⟩ = false := by unfold needP; simp only [bx, bk]; rfl
          have HI2 : Hid (n = (((namesI o).take (2 + 1)).filter (needP o.c)).length ∧ NewD W1 (wx.alloc (idO o.fc o.fk)) (.slice ao n cp) (((namesI o).take (2 + 1)).filter (needP o.c))) := by
            rw [HST.out, hP]
            simp only [Bool.false_eq_true, if_false, List.append_nil]
            exact ⟨HI.out.1, HI.out.2.on ((Touch.refl _ _).alloc _)⟩
          clear HI HST hP
          go_wp2_with fail
          go_roundg (5 - (2 + 1))
          case measure => omega
          case rel => exact ⟨2 + 1, ao, n, cp, by omega, rfl, by go_num, by omega, HI2.out⟩
        · have bx : (o.fc == 0) = true := by simpa using hx
          have bk : (o.fk == 0) = false := by simpa using hy
          have bo : (o.fc == o.c) = false := by rw [hx]; have := HC0.out; simp; omega
          have bo2 : (o.fc != o.c) = true := by rw [bne, bo]; rfl
          clear hx hy
          have hP : needP o.c ⟨o.fc, o.fk⟩ = true := by unfold needP; simp only [bx, bk, bo2]; rfl
          obtain ⟨v5, w5, hrun, hN5, _⟩ := NewD.app1 (HI.out.2.on ((Touch.refl _ _).alloc (idO o.fc o.fk))) ⟨o.fc, o.fk⟩ (by rw [← HI.out.1]; omega)
          have HI2 : Hid ((n + 1) = (((namesI o).take (2 + 1)).filter (needP o.c)).length ∧ NewD W1 w5 v5 (((namesI o).take (2 + 1)).filter (needP o.c))) := by
            rw [HST.out, hP]
            simp only [if_true]
            exact ⟨by rw [List.length_append, ← HI.out.1]; rfl, hN5⟩
          obtain ⟨ao5, cap5, hv5, _⟩ := hN5.shape
          have hv6 : v5 = .slice ao5 (n + 1) cap5 := by rw [hv5, List.length_append, ← HI.out.1]; rfl
          subst hv6
          rw [World.size_alloc] at hrun
          clear hv5 hN5 HI HST hP
          go_wp2_with (at_builtin; refine wpList_append_runD rfl _ _ rfl _ _ _ rfl rfl hrun ?_)
          go_roundg (5 - (2 + 1))
          case measure => omega
          case rel => exact ⟨2 + 1, ao5, n + 1, cap5, by omega, rfl, by go_num, by omega, HI2.out⟩
      · have bx : (o.fc == 0) = false := by simpa using hx
        by_cases ho : o.fc = o.c
        · have bo : (o.fc == o.c) = true := by simpa using ho
          have bo2 : (o.fc != o.c) = false := by rw [bne, bo]; rfl
          clear hx ho
          have hP : needP o.c ⟨o.fc, o.fk⟩ = false := by unfold needP; simp only [bx, bo2]; rfl
          have HI2 : Hid (n = (((namesI o).take (2 + 1)).filter (needP o.c)).length ∧ NewD W1 (wx.alloc (idO o.fc o.fk)) (.slice ao n cp) (((namesI o).take (2 + 1)).filter (needP o.c))) := by
            rw [HST.out, hP]
            simp only [Bool.false_eq_true, if_false, List.append_nil]
            exact ⟨HI.out.1, HI.out.2.on ((Touch.refl _ _).alloc _)⟩
          clear HI HST hP
          go_wp2_with fail
          go_roundg (5 - (2 + 1))
          case measure => omega
          case rel => exact ⟨2 + 1, ao, n, cp, by omega, rfl, by go_num, by omega, HI2.out⟩
        · have bo : (o.fc == o.c) = false := by simpa using ho
          have bo2 : (o.fc != o.c) = true := by rw [bne, bo]; rfl
          clear hx ho
          have hP : needP o.c ⟨o.fc, o.fk⟩ = true := by unfold needP; simp only [bx, bo2]; rfl
          obtain ⟨v5, w5, hrun, hN5, _⟩ := NewD.app1 (HI.out.2.on ((Touch.refl _ _).alloc (idO o.fc o.fk))) ⟨o.fc, o.fk⟩ (by rw [← HI.out.1]; omega)
          have HI2 : Hid ((n + 1) = (((namesI o).take (2 + 1)).filter (needP o.c)).length ∧ NewD W1 w5 v5 (((namesI o).take (2 + 1)).filter (needP o.c))) := by
            rw [HST.out, hP]
            simp only [if_true]
            exact ⟨by rw [List.length_append, ← HI.out.1]; rfl, hN5⟩
          obtain ⟨ao5, cap5, hv5, _⟩ := hN5.shape
          have hv6 : v5 = .slice ao5 (n + 1) cap5 := by rw [hv5, List.length_append, ← HI.out.1]; rfl
          subst hv6
          rw [World.size_alloc] at hrun
          clear hv5 hN5 HI HST hP
          go_wp2_with (at_builtin; refine wpList_append_runD rfl _ _ rfl _ _ _ rfl rfl hrun ?_)
          go_roundg (5 - (2 + 1))
          case measure => omega
          case rel => exact ⟨2 + 1, ao5, n + 1, cap5, by omega, rfl, by go_num, by omega, HI2.out⟩
    · have hidx := idx3 o
      have HST : Hid (((namesI o).take (3 + 1)).filter (needP o.c) = ((namesI o).take 3).filter (needP o.c) ++ (if needP o.c ⟨o.tc, o.tk⟩ then [⟨o.tc, o.tk⟩] else [])) := need_step o.c (namesI o) 3 (by show 3 < 5; decide)
      have HO : Hid (OpAt w.heap.size o (wx.alloc (idO o.tc o.tk))) := HW1.out.2.keep (HI.out.2.touch.alloc _)
      have p0 := HO.out.q0
      clear HO
      by_cases hx : o.tc = 0
      · by_cases hy : o.tk = 0
        · have bx : (o.tc == 0) = true := by simpa using hx
          have bk : (o.tk == 0) = true := by simpa using hy
          clear hx hy
          have hP : needP o.c ⟨o.tc, o.tk⟩ = false := by unfold needP; simp only [bx, bk]; rfl
          have HI2 : Hid (n = (((namesI o).take (3 + 1)).filter (needP o.c)).length ∧ NewD W1 (wx.alloc (idO o.tc o.tk)) (.slice ao n cp) (((namesI o).take (3 + 1)).filter (needP o.c))) := by
            rw [HST.out, hP]
            simp only [Bool.false_eq_true, if_false, List.append_nil]
            exact ⟨HI.out.1, HI.out.2.on ((Touch.refl _ _).alloc _)⟩
          clear HI HST hP
          go_wp2_with fail
          go_roundg (5 - (3 + 1))
          case measure => omega
          case rel => exact ⟨3 + 1, ao, n, cp, by omega, rfl, by go_num, by omega, HI2.out⟩
        · have bx : (o.tc == 0) = true := by simpa using hx
          have bk : (o.tk == 0) = false := by simpa using hy
          have bo : (o.tc == o.c) = false := by rw [hx]; have := HC0.out; simp; omega
          have bo2 : (o.tc != o.c) = true := by rw [bne, bo]; rfl
          clear hx hy
          have hP : needP o.c ⟨o.tc, o.tk⟩ = true := by unfold needP; simp only [bx, bk, bo2]; rfl
          obtain ⟨v5, w5, hrun, hN5, _⟩ := NewD.app1 (HI.out.2.on ((Touch.refl _ _).alloc (idO o.tc o.tk))) ⟨o.tc, o.tk⟩ (by rw [← HI.out.1]; omega)
          have HI2 : Hid ((n + 1) = (((namesI o).take (3 + 1)).filter (needP o.c)).length ∧ NewD W1 w5 v5 (((namesI o).take (3 + 1)).filter (needP o.c))) := by
            rw [HST.out, hP]
            simp only [if_true]
            exact ⟨by rw [List.length_append, ← HI.out.1]; rfl, hN5⟩
          obtain ⟨ao5, cap5, hv5, _⟩ := hN5.shape
          have hv6 : v5 = .slice ao5 (n + 1) cap5 := by rw [hv5, List.length_append, ← HI.out.1]; rfl
          subst hv6
          rw [World.size_alloc] at hrun
          clear hv5 hN5 HI HST hP
          go_wp2_with (at_builtin; refine wpList_append_runD rfl _ _ rfl _ _ _ rfl rfl hrun ?_)
          go_roundg (5 - (3 + 1))
          case measure => omega
          case rel => exact ⟨3 + 1, ao5, n + 1, cap5, by omega, rfl, by go_num, by omega, HI2.out⟩
      · have bx : (o.tc == 0) = false := by simpa using hx
        by_cases ho : o.tc = o.c
        · have bo : (o.tc == o.c) = true := by simpa using ho
          have bo2 : (o.tc != o.c) = false := by rw [bne, bo]; rfl
          clear hx ho
          have hP : needP o.c ⟨o.tc, o.tk⟩ = false := by unfold needP; simp only [bx, bo2]; rfl
          have HI2 : Hid (n = (((namesI o).take (3 + 1)).filter (needP o.c)).length ∧ NewD W1 (wx.alloc (idO o.tc o.tk)) (.slice ao n cp) (((namesI o).take (3 + 1)).filter (needP o.c))) := by
            rw [HST.out, hP]
            simp only [Bool.false_eq_true, if_false, List.append_nil]
            exact ⟨HI.out.1, HI.out.2.on ((Touch.refl _ _).alloc _)⟩
          clear HI HST hP
          go_wp2_with fail
          go_roundg (5 - (3 + 1))
          case measure => omega
          case rel => exact ⟨3 + 1, ao, n, cp, by omega, rfl, by go_num, by omega, HI2.out⟩
        · have bo : (o.tc == o.c) = false := by simpa using ho
          have bo2 : (o.tc != o.c) = true := by rw [bne, bo]; rfl
          clear hx ho
          have hP : needP o.c ⟨o.tc, o.tk⟩ = true := by unfold needP; simp only [bx, bo2]; rfl
          obtain ⟨v5, w5, hrun, hN5, _⟩ := NewD.app1 (HI.out.2.on ((Touch.refl _ _).alloc (idO o.tc o.tk))) ⟨o.tc, o.tk⟩ (by rw [← HI.out.1]; omega)
          have HI2 : Hid ((n + 1) = (((namesI o).take (3 + 1)).filter (needP o.c)).length ∧ NewD W1 w5 v5 (((namesI o).take (3 + 1)).filter (needP o.c))) := by
            rw [HST.out, hP]
            simp only [if_true]
            exact ⟨by rw [List.length_append, ← HI.out.1]; rfl, hN5⟩
          obtain ⟨ao5, cap5, hv5, _⟩ := hN5.shape
          have hv6 : v5 = .slice ao5 (n + 1) cap5 := by rw [hv5, List.length_append, ← HI.out.1]; rfl
          subst hv6
          rw [World.size_alloc] at hrun
          clear hv5 hN5 HI HST hP
          go_wp2_with (at_builtin; refine wpList_append_runD rfl _ _ rfl _ _ _ rfl rfl hrun ?_)
          go_roundg (5 - (3 + 1))
          case measure => omega
          case rel => exact ⟨3 + 1, ao5, n + 1, cap5, by omega, rfl, by go_num, by omega, HI2.out⟩
    · have hidx := idx4 o
      have HST : Hid (((namesI o).take (4 + 1)).filter (needP o.c) = ((namesI o).take 4).filter (needP o.c) ++ (if needP o.c ⟨o.pc, o.pk⟩ then [⟨o.pc, o.pk⟩] else [])) := need_step o.c (namesI o) 4 (by show 4 < 5; decide)
      have HO : Hid (OpAt w.heap.size o (wx.alloc (idO o.pc o.pk))) := HW1.out.2.keep (HI.out.2.touch.alloc _)
      have p0 := HO.out.q0
      clear HO
      by_cases hx : o.pc = 0
      · by_cases hy : o.pk = 0
        · have bx : (o.pc == 0) = true := by simpa using hx
          have bk : (o.pk == 0) = true := by simpa using hy
          clear hx hy
          have hP : needP o.c ⟨o.pc, o.pk⟩ = false := by unfold needP; simp only [bx, bk]; rfl
          have HI2 : Hid (n = (((namesI o).take (4 + 1)).filter (needP o.c)).length ∧ NewD W1 (wx.alloc (idO o.pc o.pk)) (.slice ao n cp) (((namesI o).take (4 + 1)).filter (needP o.c))) := by
            rw [HST.out, hP]
            simp only [Bool.false_eq_true, if_false, List.append_nil]
            exact ⟨HI.out.1, HI.out.2.on ((Touch.refl _ _).alloc _)⟩
          clear HI HST hP
          go_wp2_with fail
          go_roundg (5 - (4 + 1))
          case measure => omega
          case rel => exact ⟨4 + 1, ao, n, cp, by omega, rfl, by go_num, by omega, HI2.out⟩
        · have bx : (o.pc == 0) = true := by simpa using hx
          have bk : (o.pk == 0) = false := by simpa using hy
          have bo : (o.pc == o.c) = false := by rw [hx]; have := HC0.out; simp; omega
          have bo2 : (o.pc != o.c) = true := by rw [bne, bo]; rfl
          clear hx hy
          have hP : needP o.c ⟨o.pc, o.pk⟩ = true := by unfold needP; simp only [bx, bk, bo2]; rfl
          obtain ⟨v5, w5, hrun, hN5, _⟩ := NewD.app1 (HI.out.2.on ((Touch.refl _ _).alloc (idO o.pc o.pk))) ⟨o.pc, o.pk⟩ (by rw [← HI.out.1]; omega)
          have HI2 : Hid ((n + 1) = (((namesI o).take (4 + 1)).filter (needP o.c)).length ∧ NewD W1 w5 v5 (((namesI o).take (4 + 1)).filter (needP o.c))) := by
            rw [HST.out, hP]
            simp only [if_true]
            exact ⟨by rw [List.length_append, ← HI.out.1]; rfl, hN5⟩
          obtain ⟨ao5, cap5, hv5, _⟩ := hN5.shape
          have hv6 : v5 = .slice ao5 (n + 1) cap5 := by rw [hv5, List.length_append, ← HI.out.1]; rfl
          subst hv6
          rw [World.size_alloc] at hrun
          clear hv5 hN5 HI HST hP
          go_wp2_with (at_builtin; refine wpList_append_runD rfl _ _ rfl _ _ _ rfl rfl hrun ?_)
          go_roundg (5 - (4 + 1))
          case measure => omega
          case rel => exact ⟨4 + 1, ao5, n + 1, cap5, by omega, rfl, by go_num, by omega, HI2.out⟩
      · have bx : (o.pc == 0) = false := by simpa using hx
        by_cases ho : o.pc = o.c
        · have bo : (o.pc == o.c) = true := by simpa using ho
          have bo2 : (o.pc != o.c) = false := by rw [bne, bo]; rfl
          clear hx ho
          have hP : needP o.c ⟨o.pc, o.pk⟩ = false := by unfold needP; simp only [bx, bo2]; rfl
          have HI2 : Hid (n = (((namesI o).take (4 + 1)).filter (needP o.c)).length ∧ NewD W1 (wx.alloc (idO o.pc o.pk)) (.slice ao n cp) (((namesI o).take (4 + 1)).filter (needP o.c))) := by
            rw [HST.out, hP]
            simp only [Bool.false_eq_true, if_false, List.append_nil]
            exact ⟨HI.out.1, HI.out.2.on ((Touch.refl _ _).alloc _)⟩
          clear HI HST hP
          go_wp2_with fail
          go_roundg (5 - (4 + 1))
          case measure => omega
          case rel => exact ⟨4 + 1, ao, n, cp, by omega, rfl, by go_num, by omega, HI2.out⟩
        · have bo : (o.pc == o.c) = false := by simpa using ho
          have bo2 : (o.pc != o.c) = true := by rw [bne, bo]; rfl
          clear hx ho
          have hP : needP o.c ⟨o.pc, o.pk⟩ = true := by unfold needP; simp only [bx, bo2]; rfl
          obtain ⟨v5, w5, hrun, hN5, _⟩ := NewD.app1 (HI.out.2.on ((Touch.refl _ _).alloc (idO o.pc o.pk))) ⟨o.pc, o.pk⟩ (by rw [← HI.out.1]; omega)
          have HI2 : Hid ((n + 1) = (((namesI o).take (4 + 1)).filter (needP o.c)).length ∧ NewD W1 w5 v5 (((namesI o).take (4 + 1)).filter (needP o.c))) := by
            rw [HST.out, hP]
            simp only [if_true]
            exact ⟨by rw [List.length_append, ← HI.out.1]; rfl, hN5⟩
          obtain ⟨ao5, cap5, hv5, _⟩ := hN5.shape
          have hv6 : v5 = .slice ao5 (n + 1) cap5 := by rw [hv5, List.length_append, ← HI.out.1]; rfl
          subst hv6
          rw [World.size_alloc] at hrun
          clear hv5 hN5 HI HST hP
          go_wp2_with (at_builtin; refine wpList_append_runD rfl _ _ rfl _ _ _ rfl rfl hrun ?_)
          go_roundg (5 - (4 + 1))
          case measure => omega
          case rel => exact ⟨4 + 1, ao5, n + 1, cap5, by omega, rfl, by go_num, by omega, HI2.out⟩
    · have HF : Hid (NewD w wx (.slice ao n cp) (needsL o)) := HI.out.2.since HW1.out.1
      clear HI
      go_wp2_with fail
      go_ret
      exact ⟨_, rfl, HF.out⟩
end Go.Proofs.YtmknkecaeagmbaaGreatDoor
