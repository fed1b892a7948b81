/- The contract of the document's Rename. -/
import Derived.Test.YtfmpbkdmcgkeoaaPart12
namespace Go.Proofs.Ytfmpbkdmcgkeoaa
open Go.RowKit Go.Maps
set_option linter.unusedVariables false

set_option maxRecDepth 100000 in
set_option maxHeartbeats 800000 in
theorem rrename_any {w : World} {r : Nat} {G : Nat → Prop} {s : St} (h : RLive w r G s) (hr : Rising s.fs) (hn : s.fs.length ≤ 1073741823) (k : ByteArray) (hk : k.size ≤ 281474976710656) (k2 : ByteArray) (hk2 : k2.size ≤ 281474976710656) :
    Calls Try.prog 15 #[rp r, .string k, .string k2] w fun e w' => e = .returned (.int .i64 (renE s k.data.toList k2.data.toList)) ∧ RPost r G (mRename s k.data.toList k2.data.toList) w w' := by
  obtain ⟨v, l, hC, hfs, hG, hGl⟩ := h
  have HD : Hid (Calls Try.prog 38 #[rp r] w fun e w' => e = .returned (.bool (decide (s.power = 0))) ∧ w' = w) := rDead_any hC
  have hll : l.length ≤ 1073741823 := by rw [hfs] at hn; simpa [absL] using hn
  have HAt : Hid (Calls Try.prog 40 #[rp r, .string k] w fun e w' => e = .returned (.tuple #[.int .i64 (ridx k.data.toList l : Int), .bool (ris k.data.toList l)]) ∧ Touch (fun _ => False) w w') := rat_any hC k hk (by omega)
  have HNm : Hid (∀ W, Calls Try.prog 39 #[.string k2] W fun e w' => e = .returned (.bool (isNm k2.data.toList)) ∧ w' = W) := fun W => named_any k2 W (by unfold maxLen; omega)
  have hrA : Rising (absL l) := hfs ▸ hr
  have hris := ris_abs (k := k.data.toList) hrA
  have HSame : Hid (∀ w', Touch (fun _ => False) w w' → renE s k.data.toList k2.data.toList ≠ 0 → RPost r G (mRename s k.data.toList k2.data.toList) w w') := by
    intro w' t e
    unfold mRename
    rw [if_neg e]
    exact rpost_of hG (hC.touch t) hfs (t.mono fun _ _ e => e.elim) (fun _ e => .inl e) (fun f hf hb _ => ⟨f, hf, hb, rfl⟩)
  by_cases hp : s.power = 0
  · have he0 : s.err k.data.toList = 43 := by unfold St.err; rw [if_pos hp]
    have he : renE s k.data.toList k2.data.toList = 43 := by unfold renE; rw [he0]; rfl
    have HQ := HSame.out w (Touch.refl _ _) (by rw [he]; decide)
    have HZ : Hid (RPost r G (mRename s k.data.toList k2.data.toList) w w) := HQ
    rw [he]
    rw [decide_eq_true hp] at HD
    clear HQ hC hfs hG hGl HAt hris hrA HSame hp he he0 hr hn
    go_enter Try.func15, Try.ntmps15
    go_wp2_with fail
    refine HD.out.mono ?_
    rintro e w1 ⟨rfl, hw⟩
    rw [hw]; clear hw
    go_wp2_with fail
    go_ret
    exact ⟨rfl, HZ.out⟩
  · rw [decide_eq_false hp] at HD
    cases hb : ris k.data.toList l with
    | false =>
      have he0 : s.err k.data.toList = 40 := by
        unfold St.err; rw [if_neg hp, hfs, ← hris, hb]; rfl
      have he : renE s k.data.toList k2.data.toList = 40 := by unfold renE; rw [he0]; rfl
      rw [he]
      rw [hb] at HAt
      have HZ : Hid (∀ w', Touch (fun _ => False) w w' → RPost r G (mRename s k.data.toList k2.data.toList) w w') := fun w' t => HSame.out w' t (by rw [he]; decide)
      generalize (ridx k.data.toList l : Int) = I at *
      clear hC hfs hG hGl hris hrA HSame hp he he0 hr hn hb
      go_enter Try.func15, Try.ntmps15
      go_wp2_with fail
      refine HD.out.mono ?_
      rintro e w1 ⟨rfl, hw⟩
      rw [hw]; clear hw
      go_wp2_with fail
      refine HAt.out.mono ?_
      rintro e w1 ⟨rfl, t⟩
      have HY : Hid (RPost r G (mRename s k.data.toList k2.data.toList) w w1) := HZ.out w1 t
      clear t
      go_wp2_with fail
      go_ret
      exact ⟨rfl, HY.out⟩
    | true =>
      have he0 : s.err k.data.toList = 0 := by
        unfold St.err; rw [if_neg hp, hfs, ← hris, hb]; rfl
      rw [hb] at HAt
      cases hnm : isNm k2.data.toList with
      | false =>
        have he : renE s k.data.toList k2.data.toList = 41 := by unfold renE; rw [he0, hnm]; rfl
        rw [he]
        rw [hnm] at HNm
        have HZ : Hid (∀ w', Touch (fun _ => False) w w' → RPost r G (mRename s k.data.toList k2.data.toList) w w') := fun w' t => HSame.out w' t (by rw [he]; decide)
        generalize (ridx k.data.toList l : Int) = I at *
        clear hC hfs hG hGl hris hrA HSame hp he he0 hr hn hb hnm
        go_enter Try.func15, Try.ntmps15
        go_wp2_with fail
        refine HD.out.mono ?_
        rintro e w1 ⟨rfl, hw⟩
        rw [hw]; clear hw
        go_wp2_with fail
        refine HAt.out.mono ?_
        rintro e w1 ⟨rfl, t⟩
        have HY : Hid (RPost r G (mRename s k.data.toList k2.data.toList) w w1) := HZ.out w1 t
        clear t
        go_wp2_with fail
        refine (HNm.out _).mono ?_
        rintro e w2 ⟨rfl, hw⟩
        rw [hw]; clear hw
        go_wp2_with fail
        go_ret
        exact ⟨rfl, HY.out⟩
      | true =>
        have he : renE s k.data.toList k2.data.toList = 0 := by unfold renE; rw [he0, hnm]; rfl
        rw [he]
        rw [hnm] at HNm
        obtain ⟨hl, hget, hkey⟩ := get_abs hrA hb
        obtain ⟨x, hx⟩ : ∃ x, x = l[ridx k.data.toList l] := ⟨_, rfl⟩
        have hxl : x ∈ l := by rw [hx]; exact List.getElem_mem hl
        have hxo := hC.ok x hxl
        rw [← hx] at hget
        have hne : l ≠ [] := by rintro rfl; simp at hl
        obtain ⟨g, cap, rfl, hgr, hgl, hlc, hcm, hcell⟩ := hC.row hne
        have HCell : Hid (∀ W, Touch (fun _ => False) w W → W.cell? ⟨r, 0, none⟩ = some (.slice (some ⟨g, 0, none⟩) l.length cap) ∧ W.cell? ⟨g, ridx k.data.toList l * 3, none⟩ = some (.string x.name) ∧ W.cell? ⟨g, ridx k.data.toList l * 3 + 1, none⟩ = some (.slice x.bo x.bs.length x.cap) ∧ W.cell? ⟨g, ridx k.data.toList l * 3 + 2, none⟩ = some (.int .i64 (x.syn : Int))) := by
          intro W t
          obtain ⟨q0, q1, q2⟩ := hcell _ hl
          rw [← hx] at q0 q1 q2
          refine ⟨?_, ?_, ?_, ?_⟩
          · rw [World.cell?_of_block (t.block r (lt_of_heap hC.cells) id)]; exact hC.c0
          · rw [World.cell?_of_block (t.block g hgl id)]; exact q0
          · rw [World.cell?_of_block (t.block g hgl id)]; exact q1
          · rw [World.cell?_of_block (t.block g hgl id)]; exact q2
        have HDr : Hid (∀ w1, Touch (fun _ => False) w w1 → Calls Try.prog 46 #[rp r, .string k] (w1.alloc (fobj x)) fun e w' => e = .returned (.tuple #[]) ∧ w'.heap[w1.heap.size]? = some (fobj x) ∧ Hid (∃ v', RCore w' r v' (rdrop k.data.toList l) s.room s.power ∧ (∀ i, rfoot r v' (rdrop k.data.toList l) i → i ≠ w1.heap.size) ∧ Touch (fun k => k = r) w w')) := by
          intro w1 t1
          have hrl : r < w.heap.size := lt_of_heap hC.cells
          refine (rdrop_any (hC.touch (t1.alloc (fobj x))) k hk hll).mono ?_
          rintro e w' ⟨he, ⟨v', h1, h2⟩, t⟩
          refine ⟨he, ?_, v', h1, ?_, ((t1.alloc (fobj x)).mono fun _ _ e => e.elim).trans t⟩
          · rw [t.block w1.heap.size (by simp) (by have := t1.size; omega)]; exact heap_alloc_new w1 (fobj x)
          · rintro i (rfl | hi | ⟨y, hy, hyb, rfl⟩) e
            · have := t1.size; omega
            · rcases h2 i hi with q | q
              · simp [Value.ownBlock] at q; have := t1.size; omega
              · simp at q; omega
            · have := (hC.ok y (mem_rdrop hy)).lies.lt hyb; have := t1.size; omega
        obtain ⟨f, hf⟩ : ∃ f : RFl, f = ⟨k2, x.bo, x.cap, x.g, x.bs, x.syn⟩ := ⟨_, rfl⟩
        have HPut : Hid (∀ w2 B v', RCore w2 r v' (rdrop k.data.toList l) s.room s.power → (∀ i, rfoot r v' (rdrop k.data.toList l) i → i ≠ B) → w.heap.size ≤ B → Touch (fun k => k = r) w w2 → Calls Try.prog 42 #[rp r, .agg #[.string k2, .slice x.bo x.bs.length x.cap, .int .i64 (x.syn : Int)]] (w2.setCell ⟨B, 0, none⟩ (.string k2)) fun e w' => e = .returned (.tuple #[]) ∧ Hid (∃ v', RCore w' r v' (rput f (rdrop k.data.toList l)) s.room s.power ∧ (∀ k, v'.ownBlock = some k → w.heap.size ≤ k) ∧ Touch (fun k => k = r) w w')) := by
          intro w2 B v' h1 h2 hB t2
          have tB : Touch (fun i => i = B) w2 (w2.setCell ⟨B, 0, none⟩ (.string k2)) := (Touch.refl _ w2).setCell _ _ fun _ => rfl
          have tw : Touch (fun k => k = r) w (w2.setCell ⟨B, 0, none⟩ (.string k2)) := t2.then tB fun i hi e => by omega
          have h3 : RCore (w2.setCell ⟨B, 0, none⟩ (.string k2)) r v' (rdrop k.data.toList l) s.room s.power := by
            refine ⟨(tB.block r (lt_of_heap h1.cells) (h2 r (.inl rfl))).trans h1.cells, rrow_touch h1.owns tB (fun i hi => h2 i (.inr (.inl hi))), h1.ne, fun y hy => ?_, h1.room0, h1.room1, h1.pow0, h1.pow1⟩
            have ho := h1.ok y hy
            exact ⟨ho.lies.keep fun e => tB.block y.g (ho.lies.lt e) (h2 y.g (.inr (.inr ⟨y, hy, e, rfl⟩))), ho.off, ho.none, ho.le, ho.cap, ho.syn, ho.len, ho.name⟩
          have hfo : RFOk w r f := by rw [hf]; exact ⟨hxo.lies, hxo.off, hxo.none, hxo.le, hxo.cap, hxo.syn, hxo.len, hk2⟩
          have := rput_any h3 f (hfo.touch tw) (by
            have : (rdrop k.data.toList l).length ≤ l.length := by
              unfold rdrop
              cases ris k.data.toList l
              · exact Nat.le_refl _
              · rw [if_pos rfl]; simp; omega
            omega)
          rw [hf] at this
          refine this.mono ?_
          rintro e w' ⟨he, ⟨v2, q1, q2⟩, t⟩
          rw [← hf] at q1
          exact ⟨he, v2, q1, fun i hi => Nat.le_trans tw.size (q2 i hi), tw.trans t⟩
        have HEnd : Hid (∀ w1 w2 v', (∀ k, v'.ownBlock = some k → w.heap.size ≤ k) → Touch (fun k => k = r) w w1 → RCore w2 r v' (rput f (rdrop k.data.toList l)) s.room (spent s.power) → Touch (fun k => k = r) w1 w2 → RPost r G (mRename s k.data.toList k2.data.toList) w w2) := by
          intro w1 w2 v' h2 t1 h3 t2
          unfold mRename
          rw [if_pos he]
          have hrD : Rising (absL (rdrop k.data.toList l)) := by rw [rdrop_abs hrA]; exact hrA.adel
          refine rpost_of hG (s := s.to (aput k2.data.toList (s.at k.data.toList) (adel k.data.toList s.fs))) h3 ?_ (t1.trans t2) (fun k' e => .inr (h2 k' e)) (fun y hy hb _ => ?_)
          · show aput k2.data.toList (s.at k.data.toList) (adel k.data.toList s.fs) = _
            rw [rput_abs hrD, rdrop_abs hrA, hfs, hf]
            have ea : s.at k.data.toList = (x.bs, x.syn) := by unfold St.at; rw [hfs, hget]; rfl
            rw [ea]; rfl
          · rcases mem_rput hy with rfl | hy
            · rw [hf] at hb ⊢
              exact ⟨x, hxl, hb, rfl⟩
            · exact ⟨y, mem_rdrop hy, hb, rfl⟩
        obtain ⟨I, hI⟩ : ∃ I, I = ridx k.data.toList l := ⟨_, rfl⟩
        rw [← hI] at HAt HCell hl
        have hlI : (I : Int) < (l.length : Int) := by omega
        clear hC hfs hG hGl hris hrA HSame hp he he0 hr hn hb hget hkey hx hxl hne hcell hf hI hxo hnm
        go_enter Try.func15, Try.ntmps15
        go_wp2_with fail
        refine HD.out.mono ?_
        rintro e w1 ⟨rfl, hw⟩
        rw [hw]; clear hw
        go_wp2_with fail
        refine HAt.out.mono ?_
        rintro e w1 ⟨rfl, t⟩
        obtain ⟨j0, j1, j2, j3⟩ := HCell.out _ t
        have H := HDr.out _ t
        have HC1 : Hid (Calls Try.prog _ #[rp r, _] _ _) := H
        have HTS : Hid (w.heap.size ≤ w1.heap.size) := t.size
        clear H t HCell HDr
        go_wp2_with fail
        refine (HNm.out _).mono ?_
        rintro e w2 ⟨rfl, hw⟩
        rw [hw]; clear hw
        go_wp2_with fail
        refine HC1.out.mono ?_
        rintro e w2 ⟨rfl, hB, H1⟩
        obtain ⟨v', h1, h2, t2⟩ := H1.out
        have HC2 : Hid (Calls Try.prog _ #[rp r, _] _ _) := HPut.out w2 w1.heap.size v' h1 h2 HTS.out t2
        have b0 : w2.cell? ⟨w1.heap.size, 0, none⟩ = some (.string x.name) := by rw [cell_of_block hB]; rfl
        have bf := free_of_block (i := 0) hB
        have hB3 : (w2.setCell ⟨w1.heap.size, 0, none⟩ (.string k2)).heap[w1.heap.size]? = some (.cells #[.string k2, .slice x.bo x.bs.length x.cap, .int .i64 (x.syn : Int)] 69 (0, 0)) := by rw [heap_setCell_same _ _ _ _ hB]; rfl
        have c0 : (w2.setCell ⟨w1.heap.size, 0, none⟩ (.string k2)).cell? ⟨w1.heap.size, 0, none⟩ = some (.string k2) := by rw [cell_of_block hB3]; rfl
        have c1 : (w2.setCell ⟨w1.heap.size, 0, none⟩ (.string k2)).cell? ⟨w1.heap.size, 1, none⟩ = some (.slice x.bo x.bs.length x.cap) := by rw [cell_of_block hB3]; rfl
        have c2 : (w2.setCell ⟨w1.heap.size, 0, none⟩ (.string k2)).cell? ⟨w1.heap.size, 2, none⟩ = some (.int .i64 (x.syn : Int)) := by rw [cell_of_block hB3]; rfl
        clear hB h1 h2 t2 H1 HC1 HPut hB3 j0 j1 j2 j3
        go_wp2_with fail
        refine HC2.out.mono ?_
        rintro e w3 ⟨rfl, H3⟩
        obtain ⟨v3, h3, h4, t3⟩ := H3.out
        have HD3 : Hid (Calls Try.prog 43 #[rp r] w3 fun e w' => e = .returned (.int .i64 0) ∧ RPost r G (mRename s k.data.toList k2.data.toList) w w') := (rdone_any h3).mono fun e w' ⟨he, h5, t5⟩ => ⟨he, HEnd.out w3 w' v3 h4 t3 h5 t5⟩
        clear h3 h4 t3 H3 HC2 HEnd c0 c1 c2 b0 bf
        go_wp2_with fail
        refine HD3.out.mono ?_
        rintro e w4 ⟨rfl, hP⟩
        have HY : Hid (RPost r G (mRename s k.data.toList k2.data.toList) w w4) := hP
        clear hP
        go_wp2_with fail
        go_ret
        exact ⟨rfl, HY.out⟩
end Go.Proofs.Ytfmpbkdmcgkeoaa
