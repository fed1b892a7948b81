/- The contract of quireref7.Read on any bytes. -/
import Derived.Test.YtdblfabbmpdoiaaGreatRRu
import Derived.Test.YtdblfabbmpdoiaaGreatVRn
import Derived.Deep.LoopGhost
namespace Go.Proofs.YtdblfabbmpdoiaaGreat
open Go.RowKit Go.Maps
set_option linter.unusedVariables false
set_option linter.unusedSimpArgs false
set_option maxRecDepth 100000

set_option maxHeartbeats 400000 in
theorem refFail_any (s g : Nat) (bs : List UInt8) (x : Int) (w : World) (h : RR w s g bs 0) :
    Calls Tryz.prog 38 #[.pointer (some ⟨s, 0, none⟩), .int .i64 x] w fun e w' => e = .returned (.tuple #[]) ∧ RR w' s g bs x ∧ Touch (· = s) w w' := by
  have HQ : Hid (RR (w.setCell ⟨s, 1, none⟩ (.int .i64 x)) s g bs x ∧ Touch (· = s) w (w.setCell ⟨s, 1, none⟩ (.int .i64 x))) := ⟨h.fails x, (Touch.refl _ _).setCell _ _ fun _ => rfl⟩
  obtain ⟨ao, cap, hp, hl, hc, hL⟩ := h
  have c1 : w.cell? ⟨s, 1, none⟩ = some (.int .i64 0) := by rw [cell_of_block hp]; rfl
  have f1 : w.frozen? ⟨s, 1, none⟩ = false := free_of_block hp
  clear hp hL
  go_enter Tryz.func38, Tryz.ntmps38
  go_wp2_with fail
  go_end0
  exact ⟨rfl, HQ.out⟩
theorem RR.err {w : World} {s g : Nat} {bs : List UInt8} {er : Int} (h : RR w s g bs er) : w.cell? ⟨s, 1, none⟩ = some (.int .i64 er) := by
  obtain ⟨ao, cap, hp, _⟩ := h
  rw [cell_of_block hp]; rfl
/-- An append of one clock to the list that is read. -/
theorem ReadC.app1 {w wx : World} {s g : Nat} {ao : Option Addr} {j cap : Nat} {rs : List Ck} {cs : List UInt8} {er : Int} (h : ReadC w wx s (.slice ao j cap) rs) (hj : rs.length = j) (hj2 : j ≤ 20000) (R : RR wx s g cs er) (hs : s < w.heap.size) (hg : g < w.heap.size) (y : Ck) :
    ∃ ao' cap' w', (Builtin.append_ #[22, 22] 22 #[.slice ao j cap, .slice (some ⟨wx.heap.size, 0, none⟩) 1 1]).run Tryz.prog (wx.alloc (ckO y)) = .ok (.slice ao' (j + 1) cap') w' ∧ Hid (ReadC w w' s (.slice ao' (j + 1) cap') (rs ++ [y]) ∧ RR w' s g cs er) := by
  obtain ⟨v5, w5, hrun, ho5, hg5, hb5⟩ := run_appendC (wx.alloc (ckO y)) (.slice ao j cap) rs (ownC_touch h.owns ((Touch.refl (fun _ => False) wx).alloc _) (fun _ _ => id)) (some ⟨wx.heap.size, 0, none⟩) 1 1 [y] rfl (fun h => by cases h) (LiesC.new wx y) (by simp; omega)
  have tw : Touch (fun i => (Value.slice ao j cap).ownBlock = some i) wx w5 := ((Touch.refl _ wx).alloc _).grown hg5 (fun i e _ => e)
  have HQ : ReadC w w5 s v5 (rs ++ [y]) ∧ RR w5 s g cs er := by
    refine ⟨⟨ho5, ?_, ?_⟩, ?_⟩
    · exact h.touch.then tw fun i hi e => absurd hi (Nat.not_lt.2 (h.fresh i e))
    · intro k hk
      rcases hb5 with e | e
      · exact h.fresh k (e ▸ hk)
      · rw [hk] at e
        have := h.touch.size
        simp at e
        omega
    · refine R.keep tw (fun e => ?_) (fun _ e => ?_)
      · have := h.fresh s e; omega
      · have := h.fresh g e; omega
  obtain ⟨ao5, cap5, hv5⟩ := HQ.1.shape
  have hl5 : (rs ++ [y]).length = j + 1 := by simp [hj]
  rw [hl5] at hv5
  subst hv5
  exact ⟨_, _, _, hrun, HQ⟩
/-- What Read holds behind m clocks less. -/
def RM (q : Int × List Ck × List UInt8) (m : Nat) (la : Int) (rs : List Ck) (cs : List UInt8) (er : Int) : Prop :=
  (er = 0 → (0 ≤ la ∧ la ≤ 9007199254740991) ∧ q = vSteps m la rs cs) ∧ (er ≠ 0 → q.1 = er)
def RRF (r : Int × List Ck × List UInt8) (s g : Nat) (w : World) (e : Ending) (w' : World) : Prop :=
  Touch (· = s) w w' ∧ ∃ cs, RR w' s g cs r.1 ∧ ((r.1 = 0 ∧ cs = r.2.2 ∧ ∃ v', e = .returned v' ∧ ReadC w w' s v' r.2.1) ∨ (r.1 ≠ 0 ∧ e = .returned (.slice none 0 0)))
set_option maxHeartbeats 8000000 in
theorem refRead_any (s g : Nat) (bs : List UInt8) (w : World) (h : RR w s g bs 0) (hg : g < w.heap.size) :
    Calls Tryz.prog 19 #[.pointer (some ⟨s, 0, none⟩)] w (RRF (rdV bs) s g w) := by
  have hslt := h.lt
  have K1 := refUint_any s g bs 0 16384 w h (by omega) 16384 (by omega)
  unfold RUPost at K1
  rw [show rdUint bs 0 16384 = rdU bs 16384 from by unfold rdUint; rw [if_neg (by simp)]] at K1
  have HU : Hid ((rdU bs 16384).1 = 0 → (rdU bs 16384).2.1 ≤ 16384) := rdU_le
  have HU2 : Hid ((rdU bs 16384).1 ≠ 0 → (rdU bs 16384).2 = (0, bs)) := fun h => (rdU_err h).1
  have HD : Hid (rdV bs = if (rdU bs 16384).1 ≠ 0 then ((rdU bs 16384).1, [], []) else vSteps (rdU bs 16384).2.1 0 [] (rdU bs 16384).2.2) := Eq.refl (rdV bs)
  generalize rdV bs = q at *
  generalize rdU bs 16384 = r at *
  obtain ⟨er, N, rest⟩ := r
  simp only at HU HU2 HD K1
  clear h
  go_enter Tryz.func19, Tryz.ntmps19
  go_wp2_with fail
  refine K1.mono ?_
  rintro e w1 ⟨rfl, R1, t1⟩
  have hN : N ≤ 16384 := by
    by_cases h : er = 0
    · exact HU.out h
    · have := HU2.out h; simp at this; omega
  have H1 : Hid (RM q N 0 [] rest er ∧ RR w1 s g rest er ∧ Touch (· = s) w w1) := by
    refine ⟨⟨fun h => ⟨by omega, ?_⟩, fun h => ?_⟩, R1, t1⟩
    · rw [HD.out, if_neg (by simpa using h)]
    · rw [HD.out, if_pos h]
  clear K1 HU HU2 HD R1 t1
  go_wp2_with fail
  go_loopg [3, 4, 5] N (fun gg s3 s4 s5 wx => ∃ (la : Int) (rs : List Ck) (cs : List UInt8) (er : Int) (j : Nat), s3 = .int .u64 (gg : Int) ∧ s5 = .int .u64 la ∧ (∃ ao cap, s4 = .slice ao j cap) ∧ j + gg = N ∧ Hid (rs.length = j) ∧ Hid (RM q gg la rs cs er ∧ ReadC w wx s s4 rs ∧ RR wx s g cs er))
  case atStart => exact ⟨0, [], rest, er, 0, rfl, rfl, ⟨_, _, rfl⟩, by omega, rfl, ⟨H1.out.1, ⟨World.ownsRow_nil _ _ _ _, H1.out.2.2, fun k hk => by simp [Value.ownBlock] at hk⟩, H1.out.2.1⟩⟩
  case round =>
    obtain ⟨la, rs, cs, er, j, rfl, rfl, ⟨ao3, cap3, rfl⟩, hjg, HJ, H⟩ := hrel
    obtain ⟨wx, hwx⟩ : ∃ wx, wx = wr := ⟨_, rfl⟩
    subst hwx
    clear H1
    have hE := H.out.2.2.err
    by_cases he : er = 0
    case neg =>
      have h1 : (er == 0) = false := by simpa using he
      have HQ : Hid (RRF q s g w (.returned (.slice none 0 0)) wx) := by
        obtain ⟨a, b, c⟩ := H.out
        refine ⟨b.touch, cs, ?_, .inr ⟨?_, rfl⟩⟩
        · rw [a.2 he]; exact c
        · rw [a.2 he]; exact he
      clear H
      by_cases hz : gk = 0
      · subst hz
        go_wp2_with fail
        refine bodyPost_ret (v := .slice none 0 0) (by simp [results, Tryz.results19, go_sem]) rfl ?_
        exact HQ.out
      · have hz2 : (0 : Int) < (gk : Int) := by omega
        have hz3 : 0 < gk := by omega
        go_wp2_with fail
        refine bodyPost_ret (v := .slice none 0 0) (by simp [results, Tryz.results19, go_sem]) rfl ?_
        exact HQ.out
    case pos =>
    subst he
    obtain ⟨hla0, hla1⟩ := (H.out.1.1 rfl).1
    by_cases hz : gk = 0
    · subst hz
      have HQ : Hid (RRF q s g w (.returned (.slice ao3 j cap3)) wx) := by
        obtain ⟨a, b, c⟩ := H.out
        have e : q = (0, rs, cs) := (a.1 rfl).2
        rw [e]
        exact ⟨b.touch, cs, c, .inl ⟨rfl, rfl, _, rfl, b⟩⟩
      clear H
      go_wp2_with fail
      refine bodyPost_ret (v := .slice ao3 j cap3) (by simp [results, Tryz.results19, go_sem]) rfl ?_
      exact HQ.out
    obtain ⟨m, rfl⟩ : ∃ m, gk = m + 1 := ⟨gk - 1, by omega⟩
    have K2 := refUint_any s g cs 0 18446744073709551615 wx H.out.2.2 (by omega) 18446744073709551615 (by omega)
    unfold RUPost at K2
    rw [show rdUint cs 0 18446744073709551615 = rdU cs 18446744073709551615 from by unfold rdUint; rw [if_neg (by simp)]] at K2
    have HV : Hid (q = if (rdStep cs la).1 ≠ 0 then ((rdStep cs la).1, [], []) else if (rdClk (rdStep cs la).2.2).1 ≠ 0 then ((rdClk (rdStep cs la).2.2).1, [], []) else vSteps m (la + (rdStep cs la).2.1) (rs ++ [⟨la + (rdStep cs la).2.1, (rdClk (rdStep cs la).2.2).2.1⟩]) (rdClk (rdStep cs la).2.2).2.2) := (H.out.1.1 rfl).2
    have HDs : Hid (rdStep cs la = if (rdU cs 18446744073709551615).1 ≠ 0 then rdU cs 18446744073709551615 else if (rdU cs 18446744073709551615).2.1 = 0 ∨ 9007199254740991 - la < ((rdU cs 18446744073709551615).2.1 : Int) then (11, 0, cs) else rdU cs 18446744073709551615) := Eq.refl (rdStep cs la)
    have HUe : Hid ((rdU cs 18446744073709551615).1 ≠ 0 → (rdU cs 18446744073709551615).2 = (0, cs)) := fun h => (rdU_err h).1
    have HUl : Hid ((rdU cs 18446744073709551615).1 = 0 → (rdU cs 18446744073709551615).2.1 ≤ 18446744073709551615) := rdU_le
    have HC : Hid (ReadC w wx s (.slice ao3 j cap3) rs) := H.out.2.1
    clear H
    generalize rdStep cs la = st at *
    generalize rdU cs 18446744073709551615 = r1 at *
    obtain ⟨e1, d, c2⟩ := r1
    simp only at HDs HUe HUl K2
    have hmn : (0 : Int) < (m : Int) + 1 := by omega
    go_wp2_with fail
    refine K2.mono ?_
    rintro e w2 ⟨rfl, R2, t2⟩
    have HC2 : Hid (ReadC w w2 s (.slice ao3 j cap3) rs) := HC.out.on hslt t2
    have hE2 := R2.err
    clear K2 t2 hE HC
    simp only
    by_cases h1 : e1 = 0
    case neg =>
      have h1b : (e1 == 0) = false := by simpa using h1
      obtain ⟨rfl, rfl⟩ : d = 0 ∧ c2 = cs := by have := HUe.out h1; simpa using this
      have hst := HDs.out
      rw [if_pos h1] at hst
      have HQ1 : Hid (q.1 = e1) := by rw [Hid, HV.out, hst, if_pos h1]
      clear hst
      clear HV HDs HUe HUl
      have K3 := refUint_any s g _ e1 9007199254740991 w2 R2 (by omega) 9007199254740991 (by omega)
      unfold RUPost at K3
      rw [show ∀ b, rdUint b e1 9007199254740991 = (e1, 0, b) from fun b => by unfold rdUint; rw [if_pos h1]] at K3
      simp only at K3
      go_wp2_with fail
      refine K3.mono ?_
      rintro e w3 ⟨rfl, R3, t3⟩
      have HC3 : Hid (ReadC w w3 s (.slice ao3 j cap3) rs) := HC2.out.on hslt t3
      have hE3 := R3.err
      clear K3 t3 HC2 R2
      obtain ⟨z, hz9⟩ : ∃ z : Int, z = la := ⟨_, rfl⟩
      obtain ⟨ao9, cap9, w9, hrun, HQ⟩ := ReadC.app1 HC3.out HJ.out (by omega) R3 hslt hg ⟨la, 0⟩
      clear HC3 R3 hz9 z
      go_wp2_with (at_builtin; refine wpList_append_runC rfl _ _ rfl _ _ _ rfl rfl hrun ?_)
      go_roundg m
      case measure => omega
      case rel => exact ⟨la, _, _, e1, j + 1, by go_num, by go_num, ⟨_, _, rfl⟩, by omega, by simp [Hid, HJ.out], ⟨⟨fun h => absurd h h1, fun _ => HQ1.out⟩, HQ.out⟩⟩
    case pos =>
    subst h1
    have hdl := HUl.out rfl
    have HR2 : Hid (RR w2 s g c2 0) := R2
    by_cases hbad : d = 0 ∨ 9007199254740991 - la < (d : Int)
    · have hst := HDs.out
      rw [if_neg (by simp), if_pos hbad] at hst
      have HQ1 : Hid (q.1 = 11) := by rw [Hid, HV.out, hst]; simp
      clear hst
      have KF := refFail_any s g c2 11 w2 R2
      clear HV HDs HUe HUl R2
      by_cases hd0 : d = 0
      · subst hd0
        go_wp2_with fail
        refine KF.mono ?_
        rintro e w2b ⟨rfl, R2b, t2b⟩
        have HC2b : Hid (ReadC w w2b s (.slice ao3 j cap3) rs) := HC2.out.on hslt t2b
        have hE2b := R2b.err
        have h1 : (11 : Int) ≠ 0 := by decide
        clear KF t2b HC2 hE2 HR2
        have K3 := refUint_any s g _ 11 9007199254740991 w2b R2b (by omega) 9007199254740991 (by omega)
        unfold RUPost at K3
        rw [show ∀ b, rdUint b 11 9007199254740991 = (11, 0, b) from fun b => by unfold rdUint; rw [if_pos h1]] at K3
        simp only at K3
        go_wp2_with fail
        refine K3.mono ?_
        rintro e w3 ⟨rfl, R3, t3⟩
        have HC3 : Hid (ReadC w w3 s (.slice ao3 j cap3) rs) := HC2b.out.on hslt t3
        have hE3 := R3.err
        clear K3 t3 HC2b R2b
        obtain ⟨z, hz9⟩ : ∃ z : Int, z = la := ⟨_, rfl⟩
        obtain ⟨ao9, cap9, w9, hrun, HQ⟩ := ReadC.app1 HC3.out HJ.out (by omega) R3 hslt hg ⟨la, 0⟩
        clear HC3 R3 hz9 z
        go_wp2_with (at_builtin; refine wpList_append_runC rfl _ _ rfl _ _ _ rfl rfl hrun ?_)
        go_roundg m
        case measure => omega
        case rel => exact ⟨la, _, _, 11, j + 1, by go_num, by go_num, ⟨_, _, rfl⟩, by omega, by simp [Hid, HJ.out], ⟨⟨fun h => absurd h h1, fun _ => HQ1.out⟩, HQ.out⟩⟩
      · have hd1 : ((d : Int) == 0) = false := by simpa using hd0
        have hd2 : 9007199254740991 - la < (d : Int) := by rcases hbad with h | h; exact absurd h hd0; exact h
        go_wp2_with fail
        refine KF.mono ?_
        rintro e w2b ⟨rfl, R2b, t2b⟩
        have HC2b : Hid (ReadC w w2b s (.slice ao3 j cap3) rs) := HC2.out.on hslt t2b
        have hE2b := R2b.err
        have h1 : (11 : Int) ≠ 0 := by decide
        clear KF t2b HC2 hE2 HR2 hbad hd2
        have K3 := refUint_any s g _ 11 9007199254740991 w2b R2b (by omega) 9007199254740991 (by omega)
        unfold RUPost at K3
        rw [show ∀ b, rdUint b 11 9007199254740991 = (11, 0, b) from fun b => by unfold rdUint; rw [if_pos h1]] at K3
        simp only at K3
        go_wp2_with fail
        refine K3.mono ?_
        rintro e w3 ⟨rfl, R3, t3⟩
        have HC3 : Hid (ReadC w w3 s (.slice ao3 j cap3) rs) := HC2b.out.on hslt t3
        have hE3 := R3.err
        clear K3 t3 HC2b R2b
        obtain ⟨z, hz9⟩ : ∃ z : Int, z = IntKind.u64.wrap (la + (d : Int)) := ⟨_, rfl⟩
        obtain ⟨ao9, cap9, w9, hrun, HQ⟩ := ReadC.app1 HC3.out HJ.out (by omega) R3 hslt hg ⟨IntKind.u64.wrap (la + (d : Int)), 0⟩
        clear HC3 R3 hz9 z
        go_wp2_with (at_builtin; refine wpList_append_runC rfl _ _ rfl _ _ _ rfl rfl hrun ?_)
        go_roundg m
        case measure => omega
        case rel => exact ⟨IntKind.u64.wrap (la + (d : Int)), _, _, 11, j + 1, by go_num, by go_num, ⟨_, _, rfl⟩, by omega, by simp [Hid, HJ.out], ⟨⟨fun h => absurd h h1, fun _ => HQ1.out⟩, HQ.out⟩⟩
    · have hst : st = (0, d, c2) := by rw [HDs.out, if_neg (by simp), if_neg hbad]
      subst hst
      have hd0 : 0 < d := by omega
      have hd1 : ((d : Int) == 0) = false := by rw [beq_eq_false_iff_ne]; omega
      have hd2 : ¬ (9007199254740991 - la < (d : Int)) := by omega
      have hd3 : la + (d : Int) ≤ 9007199254740991 := by omega
      have HV3 : Hid (q = if (rdClk c2).1 ≠ 0 then ((rdClk c2).1, [], []) else vSteps m (la + d) (rs ++ [⟨la + d, (rdClk c2).2.1⟩]) (rdClk c2).2.2) := by rw [Hid, HV.out, if_neg (by simp)]
      have HDc : Hid (rdClk c2 = if (rdU c2 9007199254740991).1 ≠ 0 then rdU c2 9007199254740991 else if (rdU c2 9007199254740991).2.1 = 0 then (11, 0, c2) else rdU c2 9007199254740991) := Eq.refl (rdClk c2)
      have HUe2 : Hid ((rdU c2 9007199254740991).1 ≠ 0 → (rdU c2 9007199254740991).2 = (0, c2)) := fun h => (rdU_err h).1
      have HUl2 : Hid ((rdU c2 9007199254740991).1 = 0 → (rdU c2 9007199254740991).2.1 ≤ 9007199254740991) := rdU_le
      have K3 := refUint_any s g c2 0 9007199254740991 w2 R2 (by omega) 9007199254740991 (by omega)
      unfold RUPost at K3
      rw [show rdUint c2 0 9007199254740991 = rdU c2 9007199254740991 from by unfold rdUint; rw [if_neg (by simp)]] at K3
      clear HV HDs HUe HUl hbad R2 HR2
      generalize rdClk c2 = ck at *
      generalize rdU c2 9007199254740991 = r2 at *
      obtain ⟨e2, k, c3⟩ := r2
      simp only at HDc HUe2 HUl2 K3
      go_wp2_with fail
      refine K3.mono ?_
      rintro e w3 ⟨rfl, R3, t3⟩
      have HC3 : Hid (ReadC w w3 s (.slice ao3 j cap3) rs) := HC2.out.on hslt t3
      have hE3 := R3.err
      clear K3 t3 HC2 hE2
      simp only
      by_cases h2 : e2 = 0
      case neg =>
        have h2b : (e2 == 0) = false := by simpa using h2
        obtain ⟨rfl, rfl⟩ : k = 0 ∧ c3 = c2 := by have := HUe2.out h2; simpa using this
        have hck := HDc.out
        rw [if_pos h2] at hck
        have HQ1 : Hid (q.1 = e2) := by rw [Hid, HV3.out, hck, if_pos h2]
        clear hck
        clear HV3 HDc HUe2 HUl2
        obtain ⟨z, hz9⟩ : ∃ z : Int, z = la + (d : Int) := ⟨_, rfl⟩
        obtain ⟨ao9, cap9, w9, hrun, HQ⟩ := ReadC.app1 HC3.out HJ.out (by omega) R3 hslt hg ⟨la + (d : Int), 0⟩
        clear HC3 R3 hz9 z
        go_wp2_with (at_builtin; refine wpList_append_runC rfl _ _ rfl _ _ _ rfl rfl hrun ?_)
        go_roundg m
        case measure => omega
        case rel => exact ⟨la + (d : Int), _, _, e2, j + 1, by go_num, by go_num, ⟨_, _, rfl⟩, by omega, by simp [Hid, HJ.out], ⟨⟨fun h => absurd h h2, fun _ => HQ1.out⟩, HQ.out⟩⟩
      case pos =>
      subst h2
      by_cases hk0 : k = 0
      · subst hk0
        have hck := HDc.out
        rw [if_neg (by simp), if_pos rfl] at hck
        have HQ1 : Hid (q.1 = 11) := by rw [Hid, HV3.out, hck]; simp
        clear hck
        have KF := refFail_any s g c3 11 w3 R3
        clear HV3 HDc HUe2 HUl2 R3
        go_wp2_with fail
        refine KF.mono ?_
        rintro e w3b ⟨rfl, R3b, t3b⟩
        have HC3b : Hid (ReadC w w3b s (.slice ao3 j cap3) rs) := HC3.out.on hslt t3b
        have h2 : (11 : Int) ≠ 0 := by decide
        clear KF t3b HC3 hE3
        obtain ⟨z, hz9⟩ : ∃ z : Int, z = la + (d : Int) := ⟨_, rfl⟩
        obtain ⟨ao9, cap9, w9, hrun, HQ⟩ := ReadC.app1 HC3b.out HJ.out (by omega) R3b hslt hg ⟨la + (d : Int), 0⟩
        clear HC3b R3b hz9 z
        go_wp2_with (at_builtin; refine wpList_append_runC rfl _ _ rfl _ _ _ rfl rfl hrun ?_)
        go_roundg m
        case measure => omega
        case rel => exact ⟨la + (d : Int), _, _, 11, j + 1, by go_num, by go_num, ⟨_, _, rfl⟩, by omega, by simp [Hid, HJ.out], ⟨⟨fun h => absurd h h2, fun _ => HQ1.out⟩, HQ.out⟩⟩
      · have hk1 : ((k : Int) == 0) = false := by simpa using hk0
        have hkl := HUl2.out rfl
        have hck : ck = (0, k, c3) := by rw [HDc.out, if_neg (by simp), if_neg hk0]
        have HQ1 : Hid (q = vSteps m (la + d) (rs ++ [⟨la + d, k⟩]) c3) := by rw [Hid, HV3.out, hck, if_neg (by simp)]
        clear HV3 HDc HUe2 HUl2 hck
        obtain ⟨z, hz9⟩ : ∃ z : Int, z = la + (d : Int) := ⟨_, rfl⟩
        obtain ⟨ao9, cap9, w9, hrun, HQ⟩ := ReadC.app1 HC3.out HJ.out (by omega) R3 hslt hg ⟨la + (d : Int), (k : Int)⟩
        clear HC3 R3 hz9 z
        go_wp2_with (at_builtin; refine wpList_append_runC rfl _ _ rfl _ _ _ rfl rfl hrun ?_)
        go_roundg m
        case measure => omega
        case rel => exact ⟨la + (d : Int), _, _, 0, j + 1, by go_num, by go_num, ⟨_, _, rfl⟩, by omega, by simp [Hid, HJ.out], ⟨⟨fun _ => ⟨by omega, HQ1.out⟩, fun h => absurd rfl h⟩, HQ.out⟩⟩
end Go.Proofs.YtdblfabbmpdoiaaGreat
