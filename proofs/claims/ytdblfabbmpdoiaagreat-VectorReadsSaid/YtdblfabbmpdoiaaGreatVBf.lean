/- The contract of quireref7.Write: what the document writes. -/
import Derived.Test.YtdblfabbmpdoiaaGreatRvC
import Derived.Test.YtdblfabbmpdoiaaGreatPart7
import Derived.Test.YtdblfabbmpdoiaaGreatPart12
import Derived.Deep.LoopGhost
import Derived.Deep.RegionHeld3
namespace Go.Proofs.YtdblfabbmpdoiaaGreat
open Go.RowKit Go.Maps
set_option linter.unusedVariables false
set_option linter.unusedSimpArgs false
set_option maxRecDepth 100000

/-- Bytes of one's own, made since w1. -/
structure BOwn (w1 W : World) (v : Value) (bs : List UInt8) : Prop where
  owns : W.ownsRow 0 5 1 v bs.length (cellsOf bs)
  touch : Touch (fun _ => False) w1 W
  fresh : ∀ k, v.ownBlock = some k → w1.heap.size ≤ k
theorem BOwn.drew {w1 W : World} {v : Value} {bs : List UInt8} (h : BOwn w1 W v bs) : BOwn w1 W.drew v bs := ⟨h.owns, h.touch.drew, h.fresh⟩
theorem BOwn.since {w0 w1 W : World} {v : Value} {bs : List UInt8} (h : BOwn w1 W v bs) (t : Touch (fun _ => False) w0 w1) : BOwn w0 W v bs := ⟨h.owns, t.trans h.touch, fun k hk => Nat.le_trans t.size (h.fresh k hk)⟩
theorem BOwn.slice {w1 W : World} {v : Value} {bs : List UInt8} (h : BOwn w1 W v bs) : ∃ ao n cap, v = .slice ao n cap := by
  rcases h.owns.2 with ⟨e, _⟩ | ⟨g, cap, cur, e, _⟩
  · exact ⟨_, _, _, e⟩
  · exact ⟨_, _, _, e⟩
theorem refU (w1 W : World) (v : Value) (bs : List UInt8) (n : Nat) (hn : n < 18446744073709551616) (h : BOwn w1 W v bs) (hl : bs.length ≤ 1000000) (x : Int) (hx : x = n) :
    Calls Tryz.prog 32 #[v, .int .u64 x] W fun e w' => ∃ ao m cap, e = .returned (.slice ao m cap) ∧ BOwn w1 w' (.slice ao m cap) (bs ++ putU n) := by
  refine (ref1_uint v bs n hn W h.owns (by omega) x hx).mono ?_
  rintro e w' ⟨v', rfl, G⟩
  obtain ⟨ao, m, cap, rfl⟩ := G.slice
  refine ⟨ao, m, cap, rfl, G.is, h.touch.then G.touch (fun k hk e => absurd hk (Nat.not_lt.2 (h.fresh k e))), fun k hk => ?_⟩
  by_cases hlt : k < W.heap.size
  · exact h.fresh k (G.new k hlt hk)
  · have := h.touch.size; omega
set_option maxHeartbeats 4000000 in
theorem rvwrite_any (l out : List Ck) (v : Value) (w : World) (hs : SlC w v l) (hF : VForm out (atC l)) (hll : l.length ≤ 1000) :
    Calls Tryz.prog 11 #[.slice none 0 0, v] w fun e w' => ∃ v', e = .returned v' ∧ BOwn w w' v' (encV out) := by
  have HC := rvclean_any l v w hs (by omega)
  have HF0 : Hid (VForm out (atC l)) := hF
  obtain ⟨ao, cap, rfl, _⟩ := hs
  clear hF
  go_enter Tryz.func11, Tryz.ntmps11
  go_wp2_with fail
  refine HC.mono ?_
  rintro e w1 ⟨v1, o1, rfl, hN, hF, hol⟩
  obtain rfl : out = o1 := HF0.out.eq hF fun _ => rfl
  have HF : Hid (VForm out (atC l) ∧ Touch (fun _ => False) w w1) := ⟨hF, hN.touch⟩
  have HSl : Hid (SlC w1 v1 out) := hN.sl
  have hol2 : out.length ≤ 1000 := by omega
  have K0 := refU w1 w1 (.slice none 0 0) [] out.length (by omega) ⟨World.ownsRow_nil _ _ _ _, Touch.refl _ _, fun k hk => by simp [Value.ownBlock] at hk⟩ (by simp) (out.length : Int) rfl
  obtain ⟨ao1, cap1, rfl, _, hc1, hc2⟩ := hN.shape
  clear hN hF HC hol hll HF0
  go_wp2_with fail
  refine K0.mono ?_
  rintro e w2 ⟨ao2, m2, cap2, rfl, B2⟩
  rw [List.nil_append] at B2
  have HB2 : Hid (BOwn w1 w2 (.slice ao2 m2 cap2) (putU out.length)) := B2
  clear B2 K0
  go_wp2_with fail
  go_loopg [0, 5, 6] out.length (fun g s0 s5 s6 wx => ∃ (j : Nat) (la : Int), j + g = out.length ∧ s6 = .int .i64 (j : Int) ∧ s5 = .int .u64 la ∧ Hid (la = lastC 0 (out.take j) ∧ BOwn w1 wx s0 (putU out.length ++ encC 0 (out.take j))) ∧ ∃ ao n cap, s0 = .slice ao n cap)
  case atStart => exact ⟨0, 0, by omega, rfl, rfl, ⟨rfl, by rw [show encC 0 (out.take 0) = [] from rfl, List.append_nil]; exact HB2.out⟩, ⟨_, _, _, rfl⟩⟩
  case round =>
    obtain ⟨j, la, hjg, rfl, rfl, H, ⟨ao3, n3, cap3, rfl⟩⟩ := hrel
    obtain ⟨wx, hwx⟩ : ∃ wx, wx = wr := ⟨_, rfl⟩
    subst hwx
    by_cases hlt : j < out.length
    · have hne : out ≠ [] := by rintro rfl; simp at hlt
      obtain ⟨b, o, cp, e, _, _, hb, hrow⟩ := (HSl.out.touch H.out.2.touch).row hne
      obtain ⟨rfl, _, rfl⟩ : ao1 = some ⟨b, o, none⟩ ∧ True ∧ cap1 = cp := by simpa using e
      have hlast := lastC_lt HF.out.1.asc HF.out.1.oks hlt
      have hok := Ck.ok_iff.1 (HF.out.1.oks out[j] (List.getElem_mem hlt))
      have HE : Hid (encC 0 (out.take (j + 1)) = encC 0 (out.take j) ++ (putU (out[j].c - la).toNat ++ putU out[j].k.toNat) ∧ lastC 0 (out.take (j + 1)) = out[j].c) := by
        rw [Hid, List.take_succ_eq_append_getElem hlt, encC_snoc, lastC_snoc, ← H.out.1]; exact ⟨rfl, rfl⟩
      rw [← H.out.1] at hlast
      have HK : Hid (∀ W, Touch (fun _ => False) w1 W → W.cell? ⟨b, o + j * 2, none⟩ = some (.int .u64 out[j].c) ∧ W.cell? ⟨b, o + j * 2 + 1, none⟩ = some (.int .u64 out[j].k)) := fun W t => by
        obtain ⟨b', o', cp', e', _, _, hb', hrow'⟩ := (HSl.out.touch t).row hne
        simp only [Value.slice.injEq, Option.some.injEq, Addr.mk.injEq] at e'
        obtain ⟨⟨rfl, rfl, _⟩, _, _⟩ := e'
        exact hrow' j hlt
      have hel := encC_len 0 (out.take j)
      have hpl := putU_len out.length
      have htl : (out.take j).length ≤ 1000 := by rw [List.length_take]; omega
      have hcur : (putU out.length ++ encC 0 (out.take j)).length ≤ 30000 := by simp only [List.length_append]; omega
      have HB0 : Hid (BOwn w1 wx (.slice ao3 n3 cap3) (putU out.length ++ encC 0 (out.take j))) := H.out.2
      clear hrow e hne H hel hpl htl
      obtain ⟨cur, hcu⟩ : ∃ cur, Hid (putU out.length ++ encC 0 (out.take j) = cur) := ⟨_, rfl⟩
      rw [hcu.out] at HB0 hcur
      generalize out[j] = x at *
      obtain ⟨xc, xk⟩ := x
      simp only at hlast hok HE HK
      obtain ⟨hl0, hl1⟩ := hlast
      obtain ⟨⟨hx1, hx2⟩, hk1, hk2⟩ := hok
      have hd1 := putU_len (xc - la).toNat
      have K1 : Hid (∀ W, BOwn w1 W (.slice ao3 n3 cap3) cur → Calls Tryz.prog 32 #[.slice ao3 n3 cap3, .int .u64 (xc - la)] W fun e w' => ∃ ao m cap, e = .returned (.slice ao m cap) ∧ BOwn w1 w' (.slice ao m cap) (cur ++ putU (xc - la).toNat)) := fun W h =>
        refU w1 W _ cur (xc - la).toNat (by omega) h (by omega) (xc - la) (by omega)
      have K2 : Hid (∀ W v, BOwn w1 W v (cur ++ putU (xc - la).toNat) → Calls Tryz.prog 32 #[v, .int .u64 xk] W fun e w' => ∃ ao m cap, e = .returned (.slice ao m cap) ∧ BOwn w1 w' (.slice ao m cap) (cur ++ putU (xc - la).toNat ++ putU xk.toNat)) := fun W v h =>
        refU w1 W v (cur ++ putU (xc - la).toNat) xk.toNat (by omega) h (by simp only [List.length_append]; omega) xk (by omega)
      have S0 := HK.out wx HB0.out.touch
      have S1 := HK.out wx.drew HB0.out.touch.drew
      have i3 : (j : Int) < (out.length : Int) := by omega
      have i4 : (0 : Int) ≤ (j : Int) := by omega
      have i5 : IntKind.u64.wrap (xc - la) = xc - la := by simp [IntKind.wrap, IntKind.bits, IntKind.signed]; omega
      clear hcur hd1 hx1 hx2 hl0 hl1 hk1 hk2
      go_wp2_with fail
      go_region_held3 (fun W => W.cell? ⟨b, o + j * 2, none⟩ = some (.int .u64 xc) ∧ W.cell? ⟨b, o + j * 2 + 1, none⟩ = some (.int .u64 xk)) (first | assumption)
        (first
          | (go_at_call 32; first
              | ((with_reducible refine (K1.out _ (by first | exact HB0.out | exact HB0.out.drew)).mono ?_); rintro e w4 ⟨ao4, n4, cap4, rfl, B4⟩; have S4 := HK.out w4 B4.touch; have S4d := HK.out w4.drew B4.touch.drew; have HB4 : Hid (BOwn w1 w4 (.slice ao4 n4 cap4) (cur ++ putU (xc - la).toNat)) := B4; clear B4)
              | ((with_reducible refine (K2.out _ _ (by first | exact HB4.out | exact HB4.out.drew)).mono ?_); rintro e w5 ⟨ao5, n5, cap5, rfl, B5⟩; have S5 := HK.out w5 B5.touch; have HB5 : Hid (BOwn w1 w5 (.slice ao5 n5 cap5) (cur ++ putU (xc - la).toNat ++ putU xk.toNat)) := B5; clear B5)))
      all_goals (try go_wp2_with fail)
      all_goals (go_roundg (out.length - (j + 1)))
      all_goals (first | (case measure => omega) | skip)
      all_goals exact ⟨j + 1, xc, by omega, by go_num, rfl, ⟨HE.out.2.symm, by
        have := HB5.out
        rw [← hcu.out] at this
        rw [HE.out.1]
        simpa only [List.append_assoc] using this⟩, ⟨_, _, _, rfl⟩⟩
    · have hjl : j = out.length := by omega
      subst hjl
      have HQ : Hid (BOwn w wx (.slice ao3 n3 cap3) (encV out)) := by
        have := H.out.2
        rw [List.take_length] at this
        exact this.since HF.out.2
      clear H
      go_wp2_with fail
      refine bodyPost_ret (v := .slice ao3 n3 cap3) (by simp [results, Tryz.results11, go_sem]) rfl ?_
      exact ⟨_, rfl, HQ.out⟩
end Go.Proofs.YtdblfabbmpdoiaaGreat
