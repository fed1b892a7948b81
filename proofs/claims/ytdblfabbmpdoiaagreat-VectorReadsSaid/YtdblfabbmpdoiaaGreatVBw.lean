/- The contract of vector.Write. -/
import Derived.Test.YtdblfabbmpdoiaaGreatVClean
import Derived.Test.YtdblfabbmpdoiaaGreatPart6
import Derived.Test.YtdblfabbmpdoiaaGreatPart7
import Derived.Deep.LoopGhost
namespace Go.Proofs.YtdblfabbmpdoiaaGreat
open Go.RowKit Go.Maps
set_option linter.unusedVariables false
set_option linter.unusedSimpArgs false
set_option maxRecDepth 100000

theorem SlC.touchS {S : Nat → Prop} {W W' : World} {ao : Option Addr} {n cap : Nat} {l : List Ck} (h : SlC W (.slice ao n cap) l) (t : Touch S W W') (hS : ∀ b o, ao = some ⟨b, o, none⟩ → ¬ S b) : SlC W' (.slice ao n cap) l := by
  obtain ⟨ao', cap', e, h1, h2, h3, h4⟩ := h
  refine ⟨ao', cap', e, h1, h2, h3, ?_⟩
  simp only [Value.slice.injEq] at e
  obtain ⟨rfl, _, rfl⟩ := e
  rcases h4 with h | ⟨b, o, e, h⟩
  · exact .inl h
  · refine .inr ⟨b, o, e, fun j u hu => ?_⟩
    have := h j u hu
    rw [World.cell?_of_block (t.block _ (World.block_lt_of_cell? _ _ this) (hS b o e))]; exact this
set_option maxHeartbeats 4000000 in
theorem vwrite_any (p : Nat) (bs : List UInt8) (l : List Ck) (v : Value) (w : World) (h : Wr w p bs) (hs : SlC w v l) (hll : l.length ≤ 1000) (hbl : bs.length ≤ 1000000) :
    Calls Tryz.prog 7 #[.pointer (some ⟨p, 0, none⟩), v] w fun e w' => ∃ out, e = .returned (.tuple #[]) ∧ VForm out (atC l) ∧ out.length ≤ l.length ∧ WrPost p (bs ++ encV out) w w' := by
  have HC := vclean_any l v w hs (by omega)
  have HW0 : Hid (Wr w p bs) := h
  obtain ⟨ao, cap, rfl, _⟩ := hs
  clear h
  go_enter Tryz.func7, Tryz.ntmps7
  go_wp2_with fail
  refine HC.mono ?_
  rintro e w1 ⟨v1, out, rfl, n1, f1, l1⟩
  have HF : Hid (VForm out (atC l)) := f1
  have HLl : Hid (out.length ≤ l.length) := l1
  have hol : out.length ≤ 1000 := by omega
  have HW1 : Hid (Wr w1 p bs ∧ Touch (fun _ => False) w w1) := ⟨HW0.out.keep n1.touch (fun _ _ => id), n1.touch⟩
  have HFo : Hid (∀ k, wfoot w1 p k → k < w.heap.size) := fun k hk => wfoot_old HW0.out ((wfoot_keep HW0.out n1.touch id k).1 hk)
  have K1 := wuint_any p bs out.length (by omega) w1 HW1.out.1 (by omega) (out.length : Int) rfl
  have HSc : Hid (SlC w1 v1 out) := n1.sl
  have HFr : Hid (∀ k, v1.ownBlock = some k → w.heap.size ≤ k) := n1.fresh
  obtain ⟨ao1, cap1, rfl, _⟩ := n1.shape
  clear n1 f1 l1 HC
  go_wp2_with fail
  refine K1.mono ?_
  rintro e w2 ⟨rfl, P2⟩
  have HP2 : Hid (WrPost p (bs ++ putU out.length) w1 w2) := P2
  clear P2 K1
  go_wp2_with fail
  go_loopg [5, 17] out.length (fun g s5 s17 wx => ∃ (j : Nat) (la : Int), j + g = out.length ∧ s17 = .int .i64 (j : Int) ∧ s5 = .int .u64 la ∧ Hid (la = lastC 0 (out.take j) ∧ WrPost p (bs ++ putU out.length ++ encC 0 (out.take j)) w1 wx))
  case atStart => exact ⟨0, 0, by omega, rfl, rfl, ⟨rfl, by rw [show encC 0 (out.take 0) = [] from rfl, List.append_nil]; exact HP2.out⟩⟩
  case round =>
    obtain ⟨j, la, hjg, rfl, rfl, H⟩ := hrel
    obtain ⟨wx, hwx⟩ : ∃ wx, wx = wr := ⟨_, rfl⟩
    subst hwx
    by_cases hlt : j < out.length
    · have hne : out ≠ [] := by rintro rfl; simp at hlt
      have hsx := HSc.out.touchS H.out.2.touch (fun b o e hk => by
        have h1 := HFo.out b hk
        have h2 := HFr.out b (by rw [e]; rfl)
        omega)
      obtain ⟨b, o, cp, e, _, _, hb, hrow⟩ := hsx.row hne
      obtain ⟨rfl, _, rfl⟩ : ao1 = some ⟨b, o, none⟩ ∧ True ∧ cap1 = cp := by simpa using e
      obtain ⟨c0, c1⟩ := hrow j hlt
      have hlast := lastC_lt HF.out.asc HF.out.oks hlt
      have hok := Ck.ok_iff.1 (HF.out.oks out[j] (List.getElem_mem hlt))
      have HE : Hid (encC 0 (out.take (j + 1)) = encC 0 (out.take j) ++ (putU (out[j].c - la).toNat ++ putU out[j].k.toNat) ∧ lastC 0 (out.take (j + 1)) = out[j].c) := by
        rw [Hid, List.take_succ_eq_append_getElem hlt, encC_snoc, lastC_snoc, ← H.out.1]; exact ⟨rfl, rfl⟩
      rw [← H.out.1] at hlast
      have hel := encC_len 0 (out.take j)
      have hpl := putU_len out.length
      have htl : (out.take j).length ≤ 1000 := by rw [List.length_take]; omega
      have HPx : Hid (WrPost p (bs ++ putU out.length ++ encC 0 (out.take j)) w1 wx) := H.out.2
      have hcur : (bs ++ putU out.length ++ encC 0 (out.take j)).length ≤ 1000000 + 10 + 20 * 1000 := by simp only [List.length_append]; omega
      clear hsx hrow e hne H hel hpl htl
      obtain ⟨cur, hcu⟩ : ∃ cur, Hid (bs ++ putU out.length ++ encC 0 (out.take j) = cur) := ⟨_, rfl⟩
      rw [hcu.out] at HPx hcur
      generalize out[j] = x at *
      obtain ⟨xc, xk⟩ := x
      simp only at hlast hok c0 c1 HE
      obtain ⟨hl0, hl1⟩ := hlast
      obtain ⟨⟨hx1, hx2⟩, hk1, hk2⟩ := hok
      have hwa : Wr (wx.alloc (ckO ⟨xc, xk⟩)) p cur := HPx.out.is.keep ((Touch.refl (fun _ => False) wx).alloc _) (fun _ _ => id)
      have K2 := wuint_any p cur (xc - la).toNat (by omega) _ hwa (by omega) (xc - la) (by omega)
      have HPa : Hid (WrPost p cur w1 (wx.alloc (ckO ⟨xc, xk⟩))) := HPx.out.quiet ((Touch.refl _ wx).alloc _)
      have hnb : (wx.alloc (ckO ⟨xc, xk⟩)).heap[wx.heap.size]? = some (ckO ⟨xc, xk⟩) := heap_alloc_new wx _
      have HNf : Hid (¬ wfoot (wx.alloc (ckO ⟨xc, xk⟩)) p wx.heap.size) := fun hf => by
        have := wfoot_old HPx.out.is ((wfoot_keep HPx.out.is ((Touch.refl (fun _ => False) wx).alloc _) id _).1 hf)
        omega
      have HNb : Hid ((wx.alloc (ckO ⟨xc, xk⟩)).heap[wx.heap.size]? = some (ckO ⟨xc, xk⟩)) := hnb
      clear hwa hnb HPx
      go_wp2_with fail
      refine K2.mono ?_
      rintro e w3 ⟨rfl, P3⟩
      have hb3 := (P3.touch.block _ (lt_of_heap HNb.out) HNf.out).trans HNb.out
      have d0 : w3.cell? ⟨wx.heap.size, 0, none⟩ = some (.int .u64 xc) := by rw [cell_of_block hb3]; rfl
      have d1 : w3.cell? ⟨wx.heap.size, 1, none⟩ = some (.int .u64 xk) := by rw [cell_of_block hb3]; rfl
      have K3 := wuint_any p (cur ++ putU (xc - la).toNat) xk.toNat (by omega) w3 P3.is (by have := putU_len (xc - la).toNat; simp only [List.length_append]; omega) xk (by omega)
      have HP3 : Hid (WrPost p (cur ++ putU (xc - la).toNat) w1 w3) := HPa.out.trans P3
      have HB3 : Hid (w3.heap[wx.heap.size]? = some (ckO ⟨xc, xk⟩)) := hb3
      have HNf3 : Hid (¬ wfoot w3 p wx.heap.size) := fun hf => HNf.out (P3.foot _ (lt_of_heap HNb.out) hf)
      clear P3 K2 hb3 HPa HNb HNf
      go_wp2_with fail
      refine K3.mono ?_
      rintro e w4 ⟨rfl, P4⟩
      have hb4 := (P4.touch.block _ (lt_of_heap HB3.out) HNf3.out).trans HB3.out
      have e0 : w4.cell? ⟨wx.heap.size, 0, none⟩ = some (.int .u64 xc) := by rw [cell_of_block hb4]; rfl
      have HQ : Hid (WrPost p (cur ++ putU (xc - la).toNat ++ putU xk.toNat) w1 w4) := HP3.out.trans P4
      clear P4 K3 hb4 d0 d1 HB3 HNf3 HP3
      go_wp2_with fail
      go_roundg (out.length - (j + 1))
      case measure => omega
      case rel => exact ⟨j + 1, xc, by omega, by go_num, rfl, ⟨HE.out.2.symm, by
        have := HQ.out
        rw [← hcu.out] at this
        rw [HE.out.1]
        simpa only [List.append_assoc] using this⟩⟩
    · have hjl : j = out.length := by omega
      subst hjl
      have HQ : Hid (WrPost p (bs ++ encV out) w wx) := by
        have := H.out.2
        rw [List.take_length] at this
        have e : bs ++ encV out = bs ++ putU out.length ++ encC 0 out := by simp [encV]
        rw [e]
        exact WrPost.after HW0.out HW1.out.2 this
      clear H
      go_wp2_with fail
      go_end0
      exact ⟨out, rfl, HF.out, HLl.out, HQ.out⟩
end Go.Proofs.YtdblfabbmpdoiaaGreat
