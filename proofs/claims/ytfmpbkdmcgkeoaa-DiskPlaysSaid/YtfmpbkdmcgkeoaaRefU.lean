/- The contract of the document's Truncate. -/
import Derived.Test.YtfmpbkdmcgkeoaaRefT
import Derived.Deep.RegionLaw
namespace Go.Proofs.Ytfmpbkdmcgkeoaa
open Go.RowKit Go.Maps
set_option linter.unusedVariables false

set_option maxRecDepth 100000 in
set_option maxHeartbeats 800000 in
theorem rtrunc_any {w : World} {r : Nat} {G : Nat → Prop} {s : St} (h : RLive w r G s) (hr : Rising s.fs) (hn : s.fs.length ≤ 1073741823) (k : ByteArray) (hk : k.size ≤ 281474976710656) (n : Int) (hni : -9223372036854775808 ≤ n ∧ n ≤ 9223372036854775807) :
    Calls Try.prog 17 #[rp r, .string k, .int .i64 n] w fun e w' => e = .returned (.int .i64 (s.err k.data.toList)) ∧ RPost r G (mTrunc s k.data.toList n) w w' := by
  obtain ⟨v, l, hC, hfs, hG, hGl⟩ := h
  have HD : Hid (Calls Try.prog 38 #[rp r] w fun e w' => e = .returned (.bool (decide (s.power = 0))) ∧ w' = w) := rDead_any hC
  have hll : l.length ≤ 1073741823 := by rw [hfs] at hn; simpa [absL] using hn
  have HAt : Hid (Calls Try.prog 40 #[rp r, .string k] w fun e w' => e = .returned (.tuple #[.int .i64 (ridx k.data.toList l : Int), .bool (ris k.data.toList l)]) ∧ Touch (fun _ => False) w w') := rat_any hC k hk (by omega)
  have hrA : Rising (absL l) := hfs ▸ hr
  have hris := ris_abs (k := k.data.toList) hrA
  have HSame : Hid (∀ w', Touch (fun _ => False) w w' → s.err k.data.toList ≠ 0 → RPost r G (mTrunc s k.data.toList n) w w') := by
    intro w' t e
    unfold mTrunc
    rw [if_neg e]
    exact rpost_of hG (hC.touch t) hfs (t.mono fun _ _ e => e.elim) (fun _ e => .inl e) (fun f hf hb _ => ⟨f, hf, hb, rfl⟩)
  by_cases hp : s.power = 0
  · have he : s.err k.data.toList = 43 := by unfold St.err; rw [if_pos hp]
    have HQ := HSame.out w (Touch.refl _ _) (by rw [he]; decide)
    have HZ : Hid (RPost r G (mTrunc s k.data.toList n) w w) := HQ
    rw [he]
    rw [decide_eq_true hp] at HD
    clear HQ hC hfs hG hGl HAt hris hrA HSame hp he hr hn
    go_enter Try.func17, Try.ntmps17
    go_wp2_with fail
    refine HD.out.mono ?_
    rintro e w1 ⟨rfl, hw⟩
    rw [hw]; clear hw
    go_wp2_with fail
    go_ret
    exact ⟨rfl, HZ.out⟩
  · rw [decide_eq_false hp] at HD
    cases hb : ris k.data.toList l with
    | false =>
      have he : s.err k.data.toList = 40 := by
        unfold St.err; rw [if_neg hp, hfs, ← hris, hb]; rfl
      rw [he]
      rw [hb] at HAt
      have HZ : Hid (∀ w', Touch (fun _ => False) w w' → RPost r G (mTrunc s k.data.toList n) w w') := fun w' t => HSame.out w' t (by rw [he]; decide)
      generalize (ridx k.data.toList l : Int) = I at *
      clear hC hfs hG hGl hris hrA HSame hp he hr hn hb
      go_enter Try.func17, Try.ntmps17
      go_wp2_with fail
      refine HD.out.mono ?_
      rintro e w1 ⟨rfl, hw⟩
      rw [hw]; clear hw
      go_wp2_with fail
      refine HAt.out.mono ?_
      rintro e w1 ⟨rfl, t⟩
      have HY : Hid (RPost r G (mTrunc s k.data.toList n) w w1) := HZ.out w1 t
      clear t
      go_wp2_with fail
      go_ret
      exact ⟨rfl, HY.out⟩
    | true =>
      have he : s.err k.data.toList = 0 := by
        unfold St.err; rw [if_neg hp, hfs, ← hris, hb]; rfl
      obtain ⟨hl, hget, hkey⟩ := get_abs hrA hb
      rw [he]
      rw [hb] at HAt
      obtain ⟨x, hx⟩ : ∃ x, x = l[ridx k.data.toList l] := ⟨_, rfl⟩
      have hxl : x ∈ l := by rw [hx]; exact List.getElem_mem hl
      have hxo := hC.ok x hxl
      rw [← hx] at hget hkey
      obtain ⟨c, hc⟩ : ∃ c, c = cutAt n x.bs.length := ⟨_, rfl⟩
      have hcl : c ≤ x.bs.length := by rw [hc]; unfold cutAt; omega
      have hci : min (max n 0) (x.bs.length : Int) = (c : Int) := by rw [hc]; unfold cutAt; omega
      have htl : (x.bs.take c).length = c := by simp; omega
      have hne : l ≠ [] := by rintro rfl; simp at hl
      obtain ⟨g, cap, rfl, hgr, hgl, hlc, hcm, hcell⟩ := hC.row hne
      have HCell : Hid (∀ W, Touch (fun _ => False) w W → W.cell? ⟨r, 0, none⟩ = some (.slice (some ⟨g, 0, none⟩) l.length cap) ∧ W.cell? ⟨g, ridx k.data.toList l * 3, none⟩ = some (.string x.name) ∧ W.cell? ⟨g, ridx k.data.toList l * 3 + 1, none⟩ = some (.slice x.bo x.bs.length x.cap) ∧ W.cell? ⟨g, ridx k.data.toList l * 3 + 2, none⟩ = some (.int .i64 (x.syn : Int))) := by
        intro W t
        obtain ⟨q0, q1, q2⟩ := hcell _ hl
        rw [← hx] at q0 q1 q2
        refine ⟨?_, ?_, ?_, ?_⟩
        · rw [World.cell?_of_block (t.block r (lt_of_heap hC.cells) id)]; exact hC.c0
        · rw [World.cell?_of_block (t.block g hgl id)]; exact q0
        · rw [World.cell?_of_block (t.block g hgl id)]; exact q1
        · rw [World.cell?_of_block (t.block g hgl id)]; exact q2
      obtain ⟨f, hf⟩ : ∃ f : RFl, f = ⟨k, x.bo, x.cap, x.g, x.bs.take c, min x.syn c⟩ := ⟨_, rfl⟩
      have hfo : RFOk w r f := by
        rw [hf]
        exact ⟨hxo.lies.take c, fun h => hxo.off (fun e => h (by simp only [e]; simp)), hxo.none, by simp only [htl]; have := hxo.le; omega, hxo.cap, by simp only [htl]; omega, by simp only [htl]; have := hxo.len; omega, hk⟩
      have HPut : Hid (∀ w1, Touch (fun _ => False) w w1 → Calls Try.prog 42 #[rp r, .agg #[.string k, .slice x.bo c x.cap, .int .i64 ((min x.syn c : Nat) : Int)]] w1 fun e w' => e = .returned (.tuple #[]) ∧ ∃ v', RCore w' r v' (rput f l) s.room s.power ∧ (∀ k, v'.ownBlock = some k → w.heap.size ≤ k) ∧ Touch (fun k => k = r) w w') := by
        intro w1 t1
        have := rput_any (hC.touch t1) f (hfo.touch (t1.mono fun _ _ e => e.elim)) hll
        rw [hf] at this
        simp only [htl] at this
        refine this.mono ?_
        rintro e w' ⟨he, ⟨v', h1, h2⟩, t⟩
        rw [← hf] at h1
        exact ⟨he, v', h1, fun k' hk' => Nat.le_trans t1.size (h2 k' hk'), (t1.mono fun _ _ e => e.elim).trans t⟩
      have HEnd : Hid (∀ w1 w2 v', (∀ k, v'.ownBlock = some k → w.heap.size ≤ k) → Touch (fun k => k = r) w w1 → RCore w2 r v' (rput f l) s.room (spent s.power) → Touch (fun k => k = r) w1 w2 → RPost r G (mTrunc s k.data.toList n) w w2) := by
        intro w1 w2 v' h2 t1 h3 t2
        unfold mTrunc
        rw [if_pos he]
        refine rpost_of hG (s := s.to (aput k.data.toList (firstA (s.at k.data.toList) n) s.fs)) h3 ?_ (t1.trans t2) (fun k' e => .inr (h2 k' e)) (fun y hy hb _ => ?_)
        · show aput k.data.toList (firstA (s.at k.data.toList) n) s.fs = _
          rw [rput_abs hrA, hfs, hf]
          have ea : s.at k.data.toList = (x.bs, x.syn) := by unfold St.at; rw [hfs, hget]; rfl
          rw [ea]; simp only [firstA, ← hc]; rfl
        · rcases mem_rput hy with rfl | hy
          · rw [hf] at hb ⊢
            exact ⟨x, hxl, (fun e => hb (by simp only [e]; simp)), rfl⟩
          · exact ⟨y, hy, hb, rfl⟩
      obtain ⟨I, hI⟩ : ∃ I, I = ridx k.data.toList l := ⟨_, rfl⟩
      rw [← hI] at HAt HCell hl
      have hlI : (I : Int) < (l.length : Int) := by omega
      clear hC hfs hG hGl hris hrA HSame hp he hr hn hb hget hkey hx hxl hne hcell hf hfo hI
      have hmin : min (x.syn : Int) (c : Int) = ((min x.syn c : Nat) : Int) := by omega
      have hsl := fun W => slice_to x.bo x.bs.length x.cap c (by have := hxo.le; omega) W
      clear hxo htl hc
      go_enter Try.func17, Try.ntmps17
      go_wp2_with fail
      refine HD.out.mono ?_
      rintro e w1 ⟨rfl, hw⟩
      rw [hw]; clear hw
      go_wp2_with fail
      refine HAt.out.mono ?_
      rintro e w1 ⟨rfl, t⟩
      have t' : Touch (fun _ => False) w w1.drew := t.drew
      have hS := HCell.out _ t'
      obtain ⟨k0, k1, k2, k3⟩ := id hS
      obtain ⟨j0, j1, j2, j3⟩ := HCell.out _ t
      have H := HPut.out _ ((t.alloc (fobj x)).drew)
      have HC1 : Hid (Calls Try.prog _ #[rp r, _] _ _) := H
      have hbx := heap_alloc_new w1 (fobj x)
      have hbd : ((w1.alloc (fobj x)).drew).heap[w1.heap.size]? = some (fobj x) := hbx
      have b1 : (w1.alloc (fobj x)).cell? ⟨w1.heap.size, 1, none⟩ = some (.slice x.bo x.bs.length x.cap) := by rw [cell_of_block hbx]; rfl
      have d1 : ((w1.alloc (fobj x)).drew).cell? ⟨w1.heap.size, 1, none⟩ = some (.slice x.bo x.bs.length x.cap) := by rw [cell_of_block hbd]; rfl
      have d2 : ((w1.alloc (fobj x)).drew).cell? ⟨w1.heap.size, 2, none⟩ = some (.int .i64 (x.syn : Int)) := by rw [cell_of_block hbd]; rfl
      clear hbx hbd k0 k1 k2 k3
      clear H t t' HCell HPut hS
      go_wp2_with fail
      go_region_with (first | ((with_reducible refine HC1.out.mono ?_); rintro e w2 ⟨rfl, v', h1, h2, t2⟩; have H1 : Hid (RCore w2 r v' (rput f l) s.room s.power ∧ (∀ k, v'.ownBlock = some k → w.heap.size ≤ k) ∧ Touch (fun k => k = r) w w2) := ⟨h1, h2, t2⟩; clear h1 h2 t2))
      all_goals (try go_wp2_with fail)
      all_goals
        refine (rdone_any H1.out.1).mono ?_
        rintro e w3 ⟨rfl, h3, t3⟩
        have HY : Hid (RPost r G (mTrunc s k.data.toList n) w w3) := HEnd.out w2 w3 v' H1.out.2.1 H1.out.2.2 h3 t3
        clear h3 t3 H1
        go_wp2_with fail
        go_ret
        exact ⟨rfl, HY.out⟩
end Go.Proofs.Ytfmpbkdmcgkeoaa
