/- The contract of the document's Crash. -/
import Derived.Test.YtfmpbkdmcgkeoaaPart13
import Derived.Test.YtfmpbkdmcgkeoaaRefS
import Derived.Test.YtfmpbkdmcgkeoaaRefP
import Derived.Test.YtfmpbkdmcgkeoaaPart4
namespace Go.Proofs.Ytfmpbkdmcgkeoaa
open Go.RowKit Go.Maps
set_option linter.unusedVariables false
set_option linter.unusedSimpArgs false

/-- One more file. -/
theorem NewRow.one {W wx : World} {v : Value} {a : List RFl} (h : NewRow W wx v a) (f : RFl) (hl : a.length ≤ 1073741823) :
    ∃ v' w', (Builtin.append_ #[61, 61] 61 #[v, .slice (some ⟨wx.heap.size, 0, none⟩) 1 1]).run Try.prog (wx.alloc (fobj f)) = .ok v' w' ∧ NewRow W w' v' (a ++ [f]) := by
  have n2 : NewRow W (wx.alloc (fobj f)) v a := ⟨rrow_touch h.1 ((Touch.refl (fun _ => False) wx).alloc _) (fun _ _ => id), h.2.1.alloc _, h.2.2⟩
  exact n2.app (some ⟨wx.heap.size, 0, none⟩) 1 1 [f] rfl (fun h => by cases h) (LiesR.new wx f) (by simp; omega)
theorem NewRow.touch {W wx wy : World} {v : Value} {a : List RFl} (h : NewRow W wx v a) (t : Touch (fun _ => False) wx wy) : NewRow W wy v a :=
  ⟨rrow_touch h.1 t (fun _ _ => id), h.2.1.trans t, h.2.2⟩
theorem NewRow.shape {W wx : World} {v : Value} {a : List RFl} (h : NewRow W wx v a) : ∃ vo vc, v = .slice vo a.length vc := by
  rcases h.1.2 with ⟨e, h0⟩ | ⟨g, cap, cur, e, _⟩
  · exact ⟨none, 0, by rw [e, h0]⟩
  · exact ⟨_, _, e⟩

set_option maxRecDepth 100000 in
set_option maxHeartbeats 4000000 in
theorem rcrash_any {w : World} {r : Nat} {G : Nat → Prop} {s : St} (h : RLive w r G s) (hn : s.fs.length ≤ 1073741823) (g : Nat) (ao : Option Addr) (keep : List Int) (nk cap : Nat) (hnk : nk = keep.length) (hL : LiesI w g ao keep) (hki : ∀ x ∈ keep, -9223372036854775808 ≤ x ∧ x ≤ 9223372036854775807) (hkl : keep.length ≤ 9223372036854775807) :
    Calls Try.prog 28 #[rp r, .slice ao nk cap] w fun e w' => e = .returned (.tuple #[]) ∧ RPost r G (mCrash s keep) w w' := by
  subst hnk
  obtain ⟨v, l, hC, hfs, hG, hGl⟩ := h
  have hll : l.length ≤ 1073741823 := by rw [hfs] at hn; simpa [absL] using hn
  have HC : Hid (RCore w r v l s.room s.power) := hC
  have HL : Hid (LiesI w g ao keep) := hL
  have HK : Hid (∀ x ∈ keep, -9223372036854775808 ≤ x ∧ x ≤ 9223372036854775807) := hki
  have c0 := hC.c0
  have f0 := hC.free 0
  have HEnd : Hid (∀ wx vx, NewRow w wx vx (rcrL keep l) → ∀ w', w' = (wx.setCell ⟨r, 0, none⟩ vx).setCell ⟨r, 2, none⟩ (.int .i64 (-1)) → RPost r G (mCrash s keep) w w') := by
    intro wx vx n w' hw'
    have hok : ∀ f ∈ rcrL keep l, RFOk w r f := by
      intro f hf
      obtain ⟨i, x, hx, rfl⟩ := mem_rcrL hf
      exact rcrF_ok (hC.ok x hx) keep i
    have h1 := hC.relaid n hok
    have t1 : Touch (fun k => k = r) (wx.setCell ⟨r, 0, none⟩ vx) w' := by rw [hw']; exact (Touch.refl _ _).setCell _ _ fun _ => rfl
    have h2 : RCore w' r vx (rcrL keep l) s.room (-1) := h1.turn t1 (by rw [hw', heap_setCell_same _ _ _ _ h1.cells]; rfl) h1.room0 h1.room1 (by omega) (by omega)
    have t0 : Touch (fun k => k = r) w (wx.setCell ⟨r, 0, none⟩ vx) := (n.2.1.mono fun _ _ e => e.elim).setCell _ _ fun _ => rfl
    refine rpost_of (s := mCrash s keep) hG h2 ?_ (t0.trans t1) (fun k hk => .inr (n.2.2 k hk)) (fun f hf hb _ => ?_)
    · show crashAll keep 0 s.fs = _
      have := rcrL_abs keep l l.length (Nat.le_refl _)
      rw [List.take_length] at this
      rw [this, hfs]
    · obtain ⟨i, x, hx, rfl⟩ := mem_rcrL hf
      exact ⟨x, hx, fun e => hb (by show x.bs.take _ = []; rw [e]; simp), rfl⟩
  have HRow : Hid (∀ wr, Touch (fun _ => False) w wr → ∀ k (h : k < l.length), ∃ gv cv, v = .slice (some ⟨gv, 0, none⟩) l.length cv ∧ wr.cell? ⟨gv, k * 3, none⟩ = some (.string l[k].name) ∧ wr.cell? ⟨gv, k * 3 + 1, none⟩ = some (.slice l[k].bo l[k].bs.length l[k].cap) ∧ wr.cell? ⟨gv, k * 3 + 2, none⟩ = some (.int .i64 (l[k].syn : Int))) := by
    intro wr t k hk
    obtain ⟨gv, cv, e, _, hgl, _, _, hcell⟩ := hC.row (by rintro rfl; simp at hk)
    obtain ⟨q0, q1, q2⟩ := hcell k hk
    refine ⟨gv, cv, e, ?_, ?_, ?_⟩
    · rw [World.cell?_of_block (t.block gv hgl id)]; exact q0
    · rw [World.cell?_of_block (t.block gv hgl id)]; exact q1
    · rw [World.cell?_of_block (t.block gv hgl id)]; exact q2
  have HOk : Hid (∀ f ∈ l, RFOk w r f) := hC.ok
  obtain ⟨vo, vc, rfl, -⟩ := hC.lies
  have HC0 : Hid (∀ wr, Touch (fun _ => False) w wr → wr.cell? ⟨r, 0, none⟩ = some (.slice vo l.length vc) ∧ wr.cell? ⟨r, 2, none⟩ = some (.int .i64 (leftOf s.power)) ∧ wr.frozen? ⟨r, 0, none⟩ = false ∧ wr.frozen? ⟨r, 2, none⟩ = false) := by
    intro wr t
    have h1 := hC.touch t
    exact ⟨h1.c0, h1.c2, h1.free 0, h1.free 2⟩
  clear hC hL hki hfs hG hGl c0 f0 HC
  go_enter Try.func28, Try.ntmps28
  go_wp2_with fail
  go_loopw [4, 5] (fun lv i wr => ∃ k : Nat, i = .int .i64 (k : Int) ∧ k ≤ l.length ∧ NewRow w wr lv (rcrL keep (l.take k))) (fun lv i _ => (l.length - intOf i).toNat)
  case atStart => exact ⟨0, rfl, Nat.zero_le _, World.ownsRow_nil _ _ _ _, Touch.refl _ _, fun k hk => by simp [Value.ownBlock] at hk⟩
  case round =>
    obtain ⟨k, rfl, hk, hN⟩ := hrel
    obtain ⟨d0, d2, df0, df2⟩ := HC0.out wr hN.2.1
    have HN : Hid (NewRow w wr u4 (rcrL keep (l.take k))) := hN
    obtain ⟨lo, lc, hlv⟩ := hN.shape
    subst hlv
    by_cases hlt : k < l.length
    · obtain ⟨gv, cv, ev, j0, j1, j2⟩ := HRow.out wr hN.2.1 k hlt
      cases ev
      have hok := HOk.out l[k] (List.getElem_mem hlt)
      have hsn := rcrL_snoc keep l hlt
      have HLr : Hid (LiesI wr g ao keep) := HL.out.keep fun hne => hN.2.1.block g (HL.out.lt hne) id
      obtain ⟨f, hf⟩ : ∃ f, f = l[k] := ⟨_, rfl⟩
      rw [← hf] at hok hsn j0 j1 j2
      obtain ⟨c, hc⟩ : ∃ c, c = stay keep k (f.bs, f.syn) := ⟨_, rfl⟩
      have hcl := stay_le keep k f.bs f.syn hok.syn
      rw [← hc] at hcl
      have hfl := hok.len
      have hfle := hok.le
      have HSn : Hid (rcrL keep (l.take (k + 1)) = rcrL keep (l.take k) ++ [rcrF keep k f]) := hsn
      obtain ⟨f', hf'⟩ : ∃ f', f' = rcrF keep k f := ⟨_, rfl⟩
      have e1 : f'.name = f.name := by rw [hf']; rfl
      have e2 : f'.bo = f.bo := by rw [hf']; rfl
      have e3 : f'.cap = f.cap := by rw [hf']; rfl
      have e4 : f'.bs.length = c := by rw [hf']; show (f.bs.take _).length = c; rw [← hc]; simp; omega
      have e5 : f'.syn = c := by rw [hf']; exact hc.symm
      have hfo : fobj f' = .cells #[.string f.name, .slice f.bo c f.cap, .int .i64 (c : Int)] 69 := by
        show Obj.cells #[.string f'.name, .slice f'.bo f'.bs.length f'.cap, .int .i64 (f'.syn : Int)] 69 = _
        rw [e1, e2, e3, e4, e5]
      have HOne : Hid (∀ wx, Touch (fun _ => False) wr wx → ∃ v' w', (Builtin.append_ #[61, 61] 61 #[.slice lo (rcrL keep (l.take k)).length lc, .slice (some ⟨wx.heap.size, 0, none⟩) 1 1]).run Try.prog (wx.alloc (.cells #[.string f.name, .slice f.bo c f.cap, .int .i64 (c : Int)] 69)) = .ok v' w' ∧ NewRow w w' v' (rcrL keep (l.take (k + 1)))) := by
        intro wx t
        rw [HSn.out, ← hf', ← hfo]
        exact (HN.out.touch t).one f' (by rw [rcrL_len]; simp; omega)
      have HSl : ∀ W, (Instr.slice 29 (.slice f.bo f.bs.length f.cap) none (some (.int .i64 (c : Int))) none).run Try.prog W = .ok (.slice f.bo c f.cap) W := fun W => slice_to f.bo f.bs.length f.cap c (by omega) W
      have hcs : c = stay keep k (f.bs, f.syn) := hc
      clear hsn hok HSn hf' e1 e2 e3 e4 e5 hfo hc hN hf
      have hll2 : (l.length : Int) ≤ 1073741823 := by omega
      by_cases hkk : k < keep.length
      · have hkx : keep[k]? = some keep[k] := List.getElem?_eq_getElem hkk
        obtain ⟨off, rfl, hcell⟩ : ∃ off, ao = some ⟨g, off, none⟩ ∧ ∀ j (h : j < keep.length), wr.cell? ⟨g, off + j, none⟩ = some (.int .i64 keep[j]) := by
          rcases HLr.out with he | h
          · rw [he] at hkk; simp at hkk
          · exact h
        have hxc := hcell k hkk
        have hxa : ∀ o, (wr.alloc o).cell? ⟨g, off + k, none⟩ = some (.int .i64 keep[k]) := fun o => by rw [World.cell?_alloc_lt _ _ _ (World.block_lt_of_cell? _ _ hxc)]; exact hxc
        have hxr := HK.out keep[k] (List.getElem_mem hkk)
        have hcs2 : c = f.syn + min keep[k].toNat (f.bs.length - f.syn) := by rw [hcs]; unfold stay; rw [hkx]
        clear hcell hcs hkx HLr
        generalize keep[k] = x at *
        have hval : (f.syn : Int) + min (max x 0) ((f.bs.length : Int) - (f.syn : Int)) = (c : Int) := by omega
        clear hcs2
        obtain ⟨hc0, hc1⟩ := hcl
        go_wp2_with fail
        go_region
        go_upto_region 10 with fail
        obtain ⟨v', w', hrun, hnew⟩ := HOne.out ((wr.alloc (.cells #[.string f.name, .slice f.bo c f.cap, .int .i64 (c : Int)] 69)).drew) (((Touch.refl _ _).alloc _).drew)
        rw [show (((wr.alloc (.cells #[.string f.name, .slice f.bo c f.cap, .int .i64 (c : Int)] 69)).drew)).heap.size = wr.heap.size + 1 from by simp] at hrun
        have HRun : Hid (_ = Result.ok v' w') := hrun
        have HNw : Hid (NewRow w w' v' (rcrL keep (l.take (k + 1)))) := hnew
        obtain ⟨lo', lc', hsh⟩ := hnew.shape
        subst hsh
        clear hrun hnew HOne HN HSl
        generalize (rcrL keep (l.take k)).length = LL at *
        go_wp2_with (first | (at_builtin; refine wpList_append_runF rfl _ _ rfl _ _ _ rfl rfl HRun.out ?_))
        go_roundw
        case rel => exact ⟨k + 1, by go_num, by omega, HNw.out⟩
        case measure => simp [intOf]; omega
      · have hcc : c = f.syn := by rw [hcs]; unfold stay; rw [List.getElem?_eq_none (by omega)]
        clear hcs
        obtain ⟨hc0, hc1⟩ := hcl
        rw [hcc] at HSl HOne
        have hkk2 : ¬ ((k : Int) < (keep.length : Int)) := by omega
        go_upto_region 10 with fail
        obtain ⟨v', w', hrun, hnew⟩ := HOne.out (wr.alloc (.cells #[.string f.name, .slice f.bo f.syn f.cap, .int .i64 (f.syn : Int)] 69)) ((Touch.refl _ _).alloc _)
        rw [show ((wr.alloc (.cells #[.string f.name, .slice f.bo f.syn f.cap, .int .i64 (f.syn : Int)] 69))).heap.size = wr.heap.size + 1 from by simp] at hrun
        have HRun : Hid (_ = Result.ok v' w') := hrun
        have HNw : Hid (NewRow w w' v' (rcrL keep (l.take (k + 1)))) := hnew
        obtain ⟨lo', lc', hsh⟩ := hnew.shape
        subst hsh
        clear hrun hnew HOne HN HSl
        generalize (rcrL keep (l.take k)).length = LL at *
        go_wp2_with (first | (at_builtin; refine wpList_append_runF rfl _ _ rfl _ _ _ rfl rfl HRun.out ?_))
        go_roundw
        case rel => exact ⟨k + 1, by go_num, by omega, HNw.out⟩
        case measure => simp [intOf]; omega
    · have hkl2 : k = l.length := by omega
      subst hkl2
      have HZ : Hid (∀ w', w' = (wr.setCell ⟨r, 0, none⟩ (.slice lo (rcrL keep (l.take l.length)).length lc)).setCell ⟨r, 2, none⟩ (.int .i64 (-1)) → RPost r G (mCrash s keep) w w') := by
        have hN2 := HN.out
        rw [List.take_length] at hN2 ⊢
        exact HEnd.out wr _ hN2
      clear hN HRow HOk HC0 HEnd
      generalize (rcrL keep (l.take l.length)).length = LL at *
      go_wp2_with fail
      go_end0
      exact ⟨rfl, HZ.out _ rfl⟩
end Go.Proofs.Ytfmpbkdmcgkeoaa
