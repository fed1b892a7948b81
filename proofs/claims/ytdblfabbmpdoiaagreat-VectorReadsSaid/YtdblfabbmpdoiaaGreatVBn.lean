/- The contracts of vector.number, step, clock, readClocks on bytes that Write wrote. -/
import Derived.Test.YtdblfabbmpdoiaaGreatRowC
import Derived.Test.YtdblfabbmpdoiaaGreatPart9
import Derived.Test.YtdblfabbmpdoiaaGreatPart10
import Derived.Test.YtdblfabbmpdoiaaGreatPart7
import Derived.Deep.LoopGhost
namespace Go.Proofs.YtdblfabbmpdoiaaGreat
open Go.RowKit Go.Maps
set_option linter.unusedVariables false
set_option linter.unusedSimpArgs false
set_option maxRecDepth 100000

set_option maxHeartbeats 800000 in
theorem vnumber_good (p g N most : Nat) (more : List UInt8) (w : World) (h : Rd w p g (putU N ++ more) 0) (hN : N ≤ most) (hm : most < 18446744073709551616) (x : Int) (hx : x = most) :
    Calls Tryz.prog 51 #[.pointer (some ⟨p, 0, none⟩), .int .u64 x] w fun e w' => e = .returned (.int .u64 (N : Int)) ∧ Rd w' p g more 0 ∧ Touch (· = p) w w' := by
  subst hx
  have K1 := uint_any p g (putU N ++ more) 0 most w h hm
  have e1 : rdUint (putU N ++ more) 0 most = (0, N, more) := by
    unfold rdUint
    rw [if_neg (by simp)]
    exact rdU_put N most more (by omega) hN
  unfold UintPost at K1
  rw [e1] at K1
  simp only at K1
  clear e1
  go_enter Tryz.func51, Tryz.ntmps51
  go_wp2_with fail
  refine K1.mono ?_
  rintro e w1 ⟨rfl, R1, t1⟩
  have K2 := err_any p g more 0 w1 R1
  have HQ : Hid (Rd w1 p g more 0 ∧ Touch (· = p) w w1) := ⟨R1, t1⟩
  clear R1 t1 K1 h
  go_wp2_with fail
  refine K2.mono ?_
  rintro e w2 ⟨rfl, hw2⟩
  rw [hw2]
  clear hw2 K2
  go_wp2_with fail
  go_ret
  exact ⟨rfl, HQ.out⟩
set_option maxHeartbeats 800000 in
theorem vstep_good (p g N : Nat) (la : Int) (more : List UInt8) (w : World) (h : Rd w p g (putU N ++ more) 0) (h0 : 0 < N) (hl : 0 ≤ la) (hN : (N : Int) ≤ 9007199254740991 - la) :
    Calls Tryz.prog 52 #[.pointer (some ⟨p, 0, none⟩), .int .u64 la] w fun e w' => e = .returned (.int .u64 (N : Int)) ∧ Rd w' p g more 0 ∧ Touch (· = p) w w' := by
  have K1 := vnumber_good p g N 18446744073709551615 more w h (by omega) (by omega) 18446744073709551615 (by omega)
  have hn1 : ¬ ((N : Int) = 0) := by omega
  have hn2 : ((N : Int) == 0) = false := by simpa using hn1
  have hn3 : ¬ (9007199254740991 - la < (N : Int)) := by omega
  clear h
  go_enter Tryz.func52, Tryz.ntmps52
  go_wp2_with fail
  refine K1.mono ?_
  rintro e w1 ⟨rfl, R1, t1⟩
  have HQ : Hid (Rd w1 p g more 0 ∧ Touch (· = p) w w1) := ⟨R1, t1⟩
  clear R1 t1 K1
  go_wp2_with fail
  go_ret
  exact ⟨rfl, HQ.out⟩
set_option maxHeartbeats 800000 in
theorem vclock_good (p g N : Nat) (more : List UInt8) (w : World) (h : Rd w p g (putU N ++ more) 0) (h0 : 0 < N) (hN : N ≤ 9007199254740991) :
    Calls Tryz.prog 53 #[.pointer (some ⟨p, 0, none⟩)] w fun e w' => e = .returned (.int .u64 (N : Int)) ∧ Rd w' p g more 0 ∧ Touch (· = p) w w' := by
  have K1 := vnumber_good p g N 9007199254740991 more w h (by omega) (by omega) 9007199254740991 (by omega)
  have hn1 : ¬ ((N : Int) = 0) := by omega
  have hn2 : ((N : Int) == 0) = false := by simpa using hn1
  clear h
  go_enter Tryz.func53, Tryz.ntmps53
  go_wp2_with fail
  refine K1.mono ?_
  rintro e w1 ⟨rfl, R1, t1⟩
  have HQ : Hid (Rd w1 p g more 0 ∧ Touch (· = p) w w1) := ⟨R1, t1⟩
  clear R1 t1 K1
  go_wp2_with fail
  go_ret
  exact ⟨rfl, HQ.out⟩
/-- A slice of clocks of one's own, made since w, while the Reader at p was read. -/
structure ReadC (w wx : World) (p : Nat) (v : Value) (l : List Ck) : Prop where
  owns : wx.ownsRow 0 50 2 v l.length (cellsC l)
  touch : Touch (· = p) w wx
  fresh : ∀ k, v.ownBlock = some k → w.heap.size ≤ k
theorem ReadC.shape {w wx : World} {p : Nat} {v : Value} {l : List Ck} (h : ReadC w wx p v l) : ∃ ao cap, v = .slice ao l.length cap := by
  rcases h.owns.2 with ⟨e, h0⟩ | ⟨g, cap, cur, e, _⟩
  · exact ⟨none, 0, by rw [e, h0]⟩
  · exact ⟨_, cap, e⟩
theorem ReadC.on {w wx wy : World} {p : Nat} {v : Value} {l : List Ck} (h : ReadC w wx p v l) (hp : p < w.heap.size) (t : Touch (· = p) wx wy) : ReadC w wy p v l :=
  ⟨ownC_touch h.owns t (fun k hk e => by have := h.fresh k hk; omega), h.touch.trans t, h.fresh⟩
set_option maxHeartbeats 4000000 in
theorem readClocks_good (p g : Nat) (out : List Ck) (more : List UInt8) (F : Int → Int) (w : World) (h : Rd w p g (encV out ++ more) 0) (hF : VForm out F) (hol : out.length ≤ 1000) :
    Calls Tryz.prog 35 #[.pointer (some ⟨p, 0, none⟩)] w fun e w' => ∃ v', e = .returned v' ∧ ReadC w w' p v' out ∧ Rd w' p g more 0 := by
  have hplt := h.lt
  have hglt := h.ltBytes
  have h' : Rd w p g (putU out.length ++ (encC 0 out ++ more)) 0 := by
    have e : encV out ++ more = putU out.length ++ (encC 0 out ++ more) := by simp [encV]
    rwa [e] at h
  have K1 := vnumber_good p g out.length 16384 (encC 0 out ++ more) w h' (by omega) (by omega) 16384 (by omega)
  have HF : Hid (VForm out F) := hF
  clear h h' hF
  go_enter Tryz.func35, Tryz.ntmps35
  go_wp2_with fail
  refine K1.mono ?_
  rintro e w1 ⟨rfl, R1, t1⟩
  have HR1 : Hid (Rd w1 p g (encC 0 out ++ more) 0 ∧ Touch (· = p) w w1) := ⟨R1, t1⟩
  clear R1 t1 K1
  go_wp2_with fail
  go_loopg [3, 4, 7] out.length (fun gg s3 s4 s7 wx => ∃ (j : Nat) (la : Int) (rs : List Ck), j + gg = out.length ∧ s7 = .int .u64 (j : Int) ∧ s4 = .int .u64 la ∧ Hid (la = lastC 0 (out.take j) ∧ rs = out.take j ∧ ReadC w wx p s3 rs ∧ Rd wx p g (encC la (out.drop j) ++ more) 0) ∧ Hid (rs.length = j) ∧ ∃ ao cap, s3 = .slice ao j cap)
  case atStart => exact ⟨0, 0, [], by omega, rfl, rfl, ⟨rfl, rfl, ⟨World.ownsRow_nil _ _ _ _, HR1.out.2, fun k hk => by simp [Value.ownBlock] at hk⟩, HR1.out.1⟩, rfl, ⟨_, _, rfl⟩⟩
  case round =>
    obtain ⟨j, la, rs, hjg, rfl, rfl, H, HJ, ⟨ao3, cap3, rfl⟩⟩ := hrel
    obtain ⟨wx, hwx⟩ : ∃ wx, wx = wr := ⟨_, rfl⟩
    subst hwx
    by_cases hlt : j < out.length
    · have hlast := lastC_lt HF.out.asc HF.out.oks hlt
      have hok := Ck.ok_iff.1 (HF.out.oks out[j] (List.getElem_mem hlt))
      rw [← H.out.1] at hlast
      have hd : encC la (out.drop j) ++ more = putU (out[j].c - la).toNat ++ (putU out[j].k.toNat ++ (encC out[j].c (out.drop (j + 1)) ++ more)) := by
        rw [List.drop_eq_getElem_cons hlt]; simp [encC]
      have hR := H.out.2.2.2
      rw [hd] at hR
      have HT : Hid (out.take (j + 1) = rs ++ [out[j]] ∧ lastC 0 (out.take (j + 1)) = out[j].c) := by
        rw [Hid, List.take_succ_eq_append_getElem hlt, ← H.out.2.1]
        exact ⟨rfl, lastC_snoc _ _ _⟩
      have HC3 : Hid (ReadC w wx p (.slice ao3 j cap3) rs) := H.out.2.2.1
      clear H hd
      obtain ⟨rest, HE⟩ : ∃ rest, Hid (rest = encC out[j].c (out.drop (j + 1)) ++ more) := ⟨encC out[j].c (out.drop (j + 1)) ++ more, Eq.refl (encC out[j].c (out.drop (j + 1)) ++ more)⟩
      rw [← HE.out] at hR
      generalize out[j] = x at *
      obtain ⟨xc, xk⟩ := x
      simp only at *
      obtain ⟨d, hdd⟩ : ∃ d, d = xc - la := ⟨_, rfl⟩
      obtain rfl : xc = la + d := by omega
      clear hdd
      obtain ⟨dn, hdn⟩ := Int.eq_ofNat_of_zero_le (show 0 ≤ d by omega)
      obtain ⟨kn, hkn⟩ := Int.eq_ofNat_of_zero_le (show 0 ≤ xk by omega)
      subst hdn hkn
      rw [show (la + (dn : Int) - la).toNat = dn from by omega, Int.toNat_natCast] at hR
      have HS := vstep_good p g dn la (putU kn ++ rest) wx hR (by omega) (by omega) (by omega)
      have hb1 : 0 ≤ la := by omega
      have hb2 : 0 < dn := by omega
      have hb3 : la + (dn : Int) ≤ 9007199254740991 := by omega
      have hb4 : 0 < kn ∧ kn ≤ 9007199254740991 := by omega
      clear hR hlast hok
      go_wp2_with fail
      refine HS.mono ?_
      rintro e w2 ⟨rfl, R2, t2⟩
      have HK := vclock_good p g kn rest w2 R2 hb4.1 hb4.2
      have HC4 : Hid (ReadC w w2 p (.slice ao3 j cap3) rs) := HC3.out.on hplt t2
      clear HS R2 t2 HC3
      go_wp2_with fail
      refine HK.mono ?_
      rintro e w3 ⟨rfl, R3, t3⟩
      have HC5 := HC4.out.on hplt t3
      obtain ⟨v5, w5, hrun, ho5, hg5, hb5⟩ := run_appendC (w3.alloc (ckO ⟨la + dn, kn⟩)) (.slice ao3 j cap3) rs (ownC_touch HC5.owns ((Touch.refl (fun _ => False) w3).alloc _) (fun _ _ => id)) (some ⟨w3.heap.size, 0, none⟩) 1 1 [⟨la + dn, kn⟩] rfl (fun h => by cases h) (LiesC.new w3 ⟨la + dn, kn⟩) (by have := HJ.out; simp; omega)
      have tw : Touch (fun i => (Value.slice ao3 j cap3).ownBlock = some i) w3 w5 := ((Touch.refl _ w3).alloc _).grown hg5 (fun i e _ => e)
      have HQ : Hid (ReadC w w5 p v5 (rs ++ [⟨la + dn, kn⟩]) ∧ Rd w5 p g rest 0) := by
        refine ⟨⟨ho5, ?_, ?_⟩, ?_⟩
        · exact HC5.touch.then tw fun i hi e => absurd hi (Nat.not_lt.2 (HC5.fresh i e))
        · intro k hk
          rcases hb5 with e | e
          · exact HC5.fresh k (e ▸ hk)
          · rw [hk] at e
            have := HC5.touch.size
            simp at e
            omega
        · refine R3.keep tw (fun e => ?_) (fun _ e => ?_)
          · have := HC5.fresh p e; omega
          · have := HC5.fresh g e; omega
      obtain ⟨ao5, cap5, hv5⟩ := HQ.out.1.shape
      have hl5 : (rs ++ [(⟨la + dn, kn⟩ : Ck)]).length = j + 1 := by simp [HJ.out]
      rw [hl5] at hv5
      subst hv5
      clear ho5 hg5 hb5 tw R3 t3 HC5 HC4 HK hl5
      go_wp2_with (at_builtin; refine wpList_append_runC rfl _ _ rfl _ _ _ rfl rfl hrun ?_)
      go_roundg (out.length - (j + 1))
      case measure => omega
      case rel =>
        refine ⟨j + 1, la + dn, _, by omega, by go_num, by go_num, ⟨HT.out.2.symm, HT.out.1.symm, HQ.out.1, HE.out ▸ HQ.out.2⟩, by simp [Hid, HJ.out], ⟨_, _, rfl⟩⟩
    · have hjl : j = out.length := by omega
      subst hjl
      have HQ : Hid (ReadC w wx p (.slice ao3 out.length cap3) out ∧ Rd wx p g more 0) := by
        obtain ⟨e1, e2, e3, e4⟩ := H.out
        rw [List.take_length] at e2
        subst e2
        rw [List.drop_length] at e4
        exact ⟨e3, e4⟩
      clear H
      go_wp2_with fail
      refine bodyPost_ret (v := .slice ao3 out.length cap3) (by simp [results, Tryz.results35, go_sem]) rfl ?_
      exact ⟨_, rfl, HQ.out⟩
end Go.Proofs.YtdblfabbmpdoiaaGreat
