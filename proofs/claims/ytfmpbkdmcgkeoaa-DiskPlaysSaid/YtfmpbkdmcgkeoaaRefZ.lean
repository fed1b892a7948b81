/- The contract of the document's Append. -/
import Derived.Test.YtfmpbkdmcgkeoaaRefZa
import Derived.Test.YtfmpbkdmcgkeoaaRefY
namespace Go.Proofs.Ytfmpbkdmcgkeoaa
open Go.RowKit Go.Maps
set_option linter.unusedVariables false
set_option linter.unusedSimpArgs false

abbrev zobj (k : ByteArray) : Obj := .cells #[.string k, .slice none 0 0, .int .i64 0] 69
set_option maxRecDepth 100000 in
set_option maxHeartbeats 4000000 in
theorem rapp_true {w : World} {r : Nat} {G : Nat → Prop} {s : St} (h : RLive w r G s) (hr : Rising s.fs) (hn : s.fs.length ≤ 1073741823) (k : ByteArray) (hk : k.size ≤ 281474976710656) (hp : ¬ s.power = 0) (hnm : isNm k.data.toList = true) (gb : Nat) (ao : Option Addr) (b : List UInt8) (nb cp : Nat) (hnb : nb = b.length) (hbl : b.length ≤ 140737488355328) (hL : Lies w gb ao b) (hbno : ao = none → cp = 0) :
    Calls Try.prog 10 #[rp r, .string k, .slice ao nb cp] w fun e w' => e = .returned (.int .i64 (appE s k.data.toList b)) ∧ RPost r G (mAppend s k.data.toList b) w w' := by
  subst hnb
  obtain ⟨v, l, hC, hfs, hG, hGl⟩ := h
  have HD : Hid (Calls Try.prog 38 #[rp r] w fun e w' => e = .returned (.bool false) ∧ w' = w) := by
    have := rDead_any hC; rwa [decide_eq_false hp] at this
  have HNm : Hid (Calls Try.prog 39 #[.string k] w fun e w' => e = .returned (.bool true) ∧ w' = w) := by
    have := named_any k w (by unfold maxLen; omega); rwa [hnm] at this
  have hll : l.length ≤ 1073741823 := by rw [hfs] at hn; simpa [absL] using hn
  have t0 : Touch (fun _ => False) w (w.alloc (zobj k)) := (Touch.refl _ w).alloc _
  have HAt : Hid (Calls Try.prog 40 #[rp r, .string k] (w.alloc (zobj k)) fun e w' => e = .returned (.tuple #[.int .i64 (ridx k.data.toList l : Int), .bool (ris k.data.toList l)]) ∧ Touch (fun _ => False) (w.alloc (zobj k)) w') := rat_any (hC.touch t0) k hk (by omega)
  have hrA : Rising (absL l) := hfs ▸ hr
  have hris := ris_abs (k := k.data.toList) hrA
  have HSame : Hid (∀ w', Touch (fun _ => False) w w' → appE s k.data.toList b ≠ 0 → RPost r G (mAppend s k.data.toList b) w w') := by
    intro w' t e
    unfold mAppend
    rw [if_neg e]
    exact rpost_of hG (hC.touch t) hfs (t.mono fun _ _ e => e.elim) (fun _ e => .inl e) (fun f hf hb _ => ⟨f, hf, hb, rfl⟩)
  have hnot : ∀ (x : Bool) (w : World), (Op.unary .not (.bool x)).run Try.prog w = .ok (.bool (!x)) w := fun _ _ => rfl
  cases hb : ris k.data.toList l with
  | true =>
    obtain ⟨hl, hget, hkey⟩ := get_abs hrA hb
    rw [hb] at HAt
    obtain ⟨y, hx⟩ : ∃ y, y = l[ridx k.data.toList l] := ⟨_, rfl⟩
    have hxl : y ∈ l := by rw [hx]; exact List.getElem_mem hl
    have hyok := hC.ok y hxl
    rw [← hx] at hget hkey
    have hyk : y.key = k.data.toList := hkey
    have hyat : s.at k.data.toList = (y.bs, y.syn) := by unfold St.at; rw [hfs, hget]; rfl
    have hyin : y.bs ≠ [] → ∃ x ∈ l, x.bs ≠ [] ∧ x.g = y.g := fun e => ⟨y, hxl, e, rfl⟩
    have HY : Hid (RFOk w r y) := hyok
    have HU : Hid (rsum l ≤ 4503599627370496) := by
      have := rsum_le (w := w) (r := r) l hC.ok
      rw [Hid]; omega
    have HL : Hid (l.length ≤ 1073741823) := hll
    have HBl : Hid (b.length ≤ 140737488355328) := hbl
    have HE : Hid (appE s k.data.toList b = if 4194304 < y.bs.length + b.length ∨ s.room < (rsum l : Int) + (b.length : Int) then 42 else 0) := by
      unfold appE Hid
      rw [if_neg hp, if_neg (by rw [hnm]; decide), hyat, rsum_abs l s.room s.power, ← hfs]
    have HEnd : Hid True := trivial
    have HCc : Hid (∀ W, Touch (fun _ => False) w W → RCore W r v l s.room s.power) := fun W t => hC.touch t
    have HPut : Hid (appE s k.data.toList b = 0 → y.bs.length + b.length ≤ 4194304 → ∀ W1, Touch (fun _ => False) w W1 → W1.heap[w.heap.size]? = some (fobj y) → ∃ bo2 n2 cap2 w2, (Builtin.append_ #[29, 29] 29 #[.slice y.bo y.bs.length y.bs.length, .slice ao b.length cp]).run Try.prog W1 = .ok (.slice bo2 n2 cap2) w2 ∧ w2.heap[w.heap.size]? = some (fobj y) ∧ Calls Try.prog 42 #[rp r, .agg #[.string y.name, .slice bo2 n2 cap2, .int .i64 (y.syn : Int)]] (w2.setCell ⟨w.heap.size, 1, none⟩ (.slice bo2 n2 cap2)) fun e w' => e = .returned (.tuple #[]) ∧ Hid (∃ v3 f, RCore w' r v3 (rput f l) s.room s.power ∧ (∀ w4, RCore w4 r v3 (rput f l) s.room (spent s.power) → Touch (fun k => k = r) w' w4 → RPost r G (mAppend s k.data.toList b) w w4))) := by
      intro he hlen W1 t1 hf1
      have lk : ∀ {g : Nat} {a : Option Addr} {x : List UInt8}, Lies w g a x → Lies W1 g a x := fun h => h.keep fun e => t1.block _ (h.lt e) id
      obtain ⟨bo', cap', g', w2, hrun, hLn, t2, hno', hle', hcm', hg'⟩ := run_append_tight W1 y.g y.bo y.bs (lk hyok.lies) gb ao b b.length cp rfl hbno (lk hL) (by omega)
      have hrl : r < w.heap.size := lt_of_heap hC.cells
      have hfb : w.heap.size < W1.heap.size := lt_of_heap hf1
      have hf2 : w2.heap[w.heap.size]? = some (fobj y) := (t2.block _ hfb id).trans hf1
      have tB : Touch (fun i => i = w.heap.size) w2 (w2.setCell ⟨w.heap.size, 1, none⟩ (.slice bo' (y.bs ++ b).length cap')) := (Touch.refl _ w2).setCell _ _ fun _ => rfl
      have t12 := t1.trans t2
      have tw : Touch (fun _ => False) w (w2.setCell ⟨w.heap.size, 1, none⟩ (.slice bo' (y.bs ++ b).length cap')) := t12.then tB fun i hi e => by omega
      have hgw : y.bs ++ b ≠ [] → g' ≠ w.heap.size ∧ g' ≠ r := by
        intro e
        rcases hg' with ⟨hb0, rfl⟩ | ⟨hb0, hge⟩
        · subst hb0
          rw [List.append_nil] at e
          have := hyok.lies.lt e
          exact ⟨by omega, hyok.off e⟩
        · exact ⟨by omega, by omega⟩
      obtain ⟨f, hf⟩ : ∃ f : RFl, f = ⟨y.name, bo', cap', g', y.bs ++ b, y.syn⟩ := ⟨_, rfl⟩
      have hfo : RFOk (w2.setCell ⟨w.heap.size, 1, none⟩ (.slice bo' (y.bs ++ b).length cap')) r f := by
        rw [hf]
        refine ⟨hLn.keep fun e => tB.block g' (hLn.lt e) (hgw e).1, fun e => (hgw e).2, hno', hle', hcm', ?_, ?_, hyok.name⟩
        · have := hyok.syn; simp only [List.length_append]; omega
        · simp only [List.length_append]; omega
      have hpt := rput_any (hC.touch tw) f hfo hll
      refine ⟨_, _, _, w2, hrun, hf2, ?_⟩
      rw [hf] at hpt
      refine hpt.mono ?_
      rintro e w' ⟨he', ⟨v3, q1, q2⟩, t⟩
      rw [← hf] at q1
      refine ⟨he', v3, f, q1, fun w4 h4 t4 => ?_⟩
      unfold mAppend
      rw [if_pos he]
      refine rpost_of hG (s := s.to (aput k.data.toList ((s.at k.data.toList).1 ++ b, (s.at k.data.toList).2) s.fs)) h4 ?_ (((tw.mono fun _ _ e => e.elim).trans t).trans t4) (fun k' e => .inr (Nat.le_trans tw.size (q2 k' e))) (fun z hz hb hlt => ?_)
      · show aput k.data.toList ((s.at k.data.toList).1 ++ b, (s.at k.data.toList).2) s.fs = _
        rw [rput_abs hrA, hfs, hf, hyat, ← hyk]; rfl
      · rcases mem_rput hz with rfl | hz
        · rw [hf] at hb hlt ⊢
          simp only at hb hlt ⊢
          rcases hg' with ⟨hb0, rfl⟩ | ⟨hb0, hge⟩
          · subst hb0
            rw [List.append_nil] at hb
            exact hyin hb
          · omega
        · exact ⟨z, hz, hb, rfl⟩
    have hne : l ≠ [] := by rintro rfl; simp at hl
    obtain ⟨g, cap, rfl, hgr, hgl, hlc, hcm, hcell⟩ := hC.row hne
    have HCell : Hid (∀ W, Touch (fun _ => False) w W → W.cell? ⟨r, 0, none⟩ = some (.slice (some ⟨g, 0, none⟩) l.length cap) ∧ W.cell? ⟨g, ridx k.data.toList l * 3, none⟩ = some (.string y.name) ∧ W.cell? ⟨g, ridx k.data.toList l * 3 + 1, none⟩ = some (.slice y.bo y.bs.length y.cap) ∧ W.cell? ⟨g, ridx k.data.toList l * 3 + 2, none⟩ = some (.int .i64 (y.syn : Int))) := by
      intro W t
      obtain ⟨q0, q1, q2⟩ := hcell _ hl
      rw [← hx] at q0 q1 q2
      refine ⟨?_, ?_, ?_, ?_⟩
      · rw [World.cell?_of_block (t.block r (lt_of_heap hC.cells) id)]; exact hC.c0
      · rw [World.cell?_of_block (t.block g hgl id)]; exact q0
      · rw [World.cell?_of_block (t.block g hgl id)]; exact q1
      · rw [World.cell?_of_block (t.block g hgl id)]; exact q2
    obtain ⟨I, hI⟩ : ∃ I, I = ridx k.data.toList l := ⟨_, rfl⟩
    rw [← hI] at HAt HCell hl
    have hlI : (I : Int) < (l.length : Int) := by omega
    have HT0 : Hid (Touch (fun _ => False) w (w.alloc (zobj k))) := t0
    have HB0 : Hid (∀ W, Touch (fun _ => False) (w.alloc (zobj k)) W → W.heap[w.heap.size]? = some (zobj k)) := fun W t => (t.block _ (by simp) id).trans (heap_alloc_new w (zobj k))
    clear hI hx hget hkey t0 hcell hC hfs hG hGl hris hrA hp hr hn hb hxl hne hyok hyat hyin hnm hL hbno hk hyk
    go_enter Try.func10, Try.ntmps10
    go_wp2_with fail
    refine HD.out.mono ?_
    rintro e w1 ⟨rfl, hw⟩
    rw [hw]; clear hw
    go_wp2_with fail
    refine HNm.out.mono ?_
    rintro e w1 ⟨rfl, hw⟩
    rw [hw]; clear hw
    go_wp2_with fail
    refine HAt.out.mono ?_
    rintro e w1 ⟨rfl, t⟩
    obtain ⟨j0, j1, j2, j3⟩ := HCell.out _ (HT0.out.trans t)
    have hB := HB0.out _ t
    have z0 : w1.cell? ⟨w.heap.size, 0, none⟩ = some (.string k) := by rw [cell_of_block hB]; rfl
    have z1 : w1.cell? ⟨w.heap.size, 1, none⟩ = some (.slice none 0 0) := by rw [cell_of_block hB]; rfl
    have z2 : w1.cell? ⟨w.heap.size, 2, none⟩ = some (.int .i64 0) := by rw [cell_of_block hB]; rfl
    have zf := free_of_block (i := 0) hB
    have zf1 := free_of_block (i := 1) hB
    have zf2 := free_of_block (i := 2) hB
    obtain ⟨W1, hW1⟩ : ∃ W1, Hid (W1 = ((w1.setCell ⟨w.heap.size, 0, none⟩ (.string y.name)).setCell ⟨w.heap.size, 1, none⟩ (.slice y.bo y.bs.length y.cap)).setCell ⟨w.heap.size, 2, none⟩ (.int .i64 (y.syn : Int))) := ⟨_, Eq.refl _⟩
    have hb1 : (w1.setCell ⟨w.heap.size, 0, none⟩ (.string y.name)).heap[w.heap.size]? = some (.cells #[.string y.name, .slice none 0 0, .int .i64 0] 69 (0, 0)) := by rw [heap_setCell_same _ _ _ _ hB]; rfl
    have hb2 : ((w1.setCell ⟨w.heap.size, 0, none⟩ (.string y.name)).setCell ⟨w.heap.size, 1, none⟩ (.slice y.bo y.bs.length y.cap)).heap[w.heap.size]? = some (.cells #[.string y.name, .slice y.bo y.bs.length y.cap, .int .i64 0] 69 (0, 0)) := by rw [heap_setCell_same _ _ _ _ hb1]; rfl
    have HF : Hid (W1.heap[w.heap.size]? = some (fobj y)) := by rw [hW1.out, Hid, heap_setCell_same _ _ _ _ hb2]; rfl
    have HT1 : Hid (Touch (fun _ => False) w W1) := by
      have a0 : Touch (fun i => i = w.heap.size) w1 (w1.setCell ⟨w.heap.size, 0, none⟩ (.string y.name)) := (Touch.refl _ _).setCell ⟨w.heap.size, 0, none⟩ _ (fun _ => rfl)
      have a1 := a0.setCell ⟨w.heap.size, 1, none⟩ (.slice y.bo y.bs.length y.cap) (fun _ => rfl)
      have a2 := a1.setCell ⟨w.heap.size, 2, none⟩ (.int .i64 (y.syn : Int)) (fun _ => rfl)
      rw [hW1.out]
      exact (HT0.out.trans t).then a2 (fun i hi e => by omega)
    have HC1 : Hid (RCore W1 r _ l s.room s.power) := HCc.out W1 HT1.out
    have HPut' : Hid (appE s k.data.toList b = 0 → y.bs.length + b.length ≤ 4194304 → ∀ n, ∃ bo2 n2 cap2 w2, (Builtin.append_ #[29, 29] 29 #[.slice y.bo y.bs.length y.bs.length, .slice ao b.length cp]).run Try.prog (W1.drewN n) = .ok (.slice bo2 n2 cap2) w2 ∧ w2.heap[w.heap.size]? = some (fobj y) ∧ _) := fun h0 h1 n => HPut.out h0 h1 (W1.drewN n) (HT1.out.drewN' n) (((Touch.refl (fun _ => False) W1).drewN' n).block _ (lt_of_heap HF.out) id |>.trans HF.out)
    clear HPut hb1 hb2 hB HB0 HT0 HCell HCc t
    have HPut := HPut'
    clear HPut'
    go_upto_region 9 with fail
    rw [← hW1.out]
    clear hW1 z0 z1 z2 zf zf1 zf2 j0 j1 j2 j3
    have n1 : W1.cell? ⟨w.heap.size, 1, none⟩ = some (.slice y.bo y.bs.length y.cap) := by rw [cell_of_block HF.out]; rfl
    have rc1 : W1.cell? ⟨r, 1, none⟩ = some (.int .i64 s.room) := HC1.out.c1
    have HUs : Hid (∀ n, Calls Try.prog 41 #[rp r] (W1.drewN n) fun e w' => e = .returned (.int .i64 (rsum l : Int)) ∧ w' = W1.drewN n) := fun n => rused_any (HC1.out.touch ((Touch.refl _ _).drewN' n)) (by have := HL.out; omega)
    have hyl := HY.out.len
    have hul := HU.out
    have hbb := HBl.out
    have hroom0 := HC1.out.room0
    have hroom1 := HC1.out.room1
    have HApp : Hid (appE s k.data.toList b = if 4194304 < y.bs.length + b.length ∨ s.room < (rsum l : Int) + (b.length : Int) then 42 else 0) := HE.out
    by_cases h1 : 4194304 < y.bs.length + b.length
    case pos =>
      have he : appE s k.data.toList b = 42 := by rw [HApp.out, if_pos (.inl h1)]
      have HQ : Hid (∀ n, RPost r G (mAppend s k.data.toList b) w (W1.drewN n)) := fun n => HSame.out _ (HT1.out.drewN' n) (by rw [he]; decide)
      have HX : Hid (appE s k.data.toList b = 42) := he
      have hd : decide ((4194304 : Int) < (y.bs.length : Int) + (b.length : Int)) = true := by rw [decide_eq_true_iff]; omega
      have hw : IntKind.i64.wrap ((y.bs.length : Int) + (b.length : Int)) = (y.bs.length : Int) + (b.length : Int) := by rw [IntKind.wrap_i64]; omega
      have h1' : (4194304 : Int) < (y.bs.length : Int) + (b.length : Int) := by omega
      clear HApp he h1 HSame HEnd HC1 HF HU HY HBl HE HPut
      generalize y.bs.length = L at *
      generalize b.length = M at *
      go_wp2_with fail
      go_quiet (fail)
      go_wp2_with fail
      go_ret
      exact ⟨by rw [HX.out]; rfl, HQ.out _⟩
    have hd : decide ((4194304 : Int) < (y.bs.length : Int) + (b.length : Int)) = false := by rw [decide_eq_false_iff_not]; omega
    have hw : IntKind.i64.wrap ((y.bs.length : Int) + (b.length : Int)) = (y.bs.length : Int) + (b.length : Int) := by rw [IntKind.wrap_i64]; omega
    have hw2 : IntKind.i64.wrap ((rsum l : Int) + (b.length : Int)) = (rsum l : Int) + (b.length : Int) := by rw [IntKind.wrap_i64]; omega
    have h1' : ¬ (4194304 : Int) < (y.bs.length : Int) + (b.length : Int) := by omega
    by_cases h2 : s.room < (rsum l : Int) + (b.length : Int)
    case pos =>
      have he : appE s k.data.toList b = 42 := by rw [HApp.out, if_pos (.inr h2)]
      have HQ : Hid (∀ n, RPost r G (mAppend s k.data.toList b) w (W1.drewN n)) := fun n => HSame.out _ (HT1.out.drewN' n) (by rw [he]; decide)
      have HX : Hid (appE s k.data.toList b = 42) := he
      have hd2 : decide (s.room < (rsum l : Int) + (b.length : Int)) = true := decide_eq_true h2
      clear HApp he h1 HSame HEnd HC1 HF HU HY HBl HE HPut
      generalize y.bs.length = L at *
      generalize b.length = M at *
      generalize rsum l = U at *
      generalize s.room = rm at *
      go_wp2_with fail
      go_quiet (first | (go_at_call 41; exact Calls.quiet_of_same (HUs.out _)))
      go_wp2_with fail
      go_ret
      exact ⟨by rw [HX.out]; rfl, HQ.out _⟩
    have he : appE s k.data.toList b = 0 := by rw [HApp.out, if_neg (by intro h; rcases h with h | h; exact h1 h; exact h2 h)]
    have hd2 : decide (s.room < (rsum l : Int) + (b.length : Int)) = false := decide_eq_false h2
    have HGo : Hid (∀ n, ∃ bo2 n2 cap2 w2, (Builtin.append_ #[29, 29] 29 #[.slice y.bo y.bs.length y.bs.length, .slice ao b.length cp]).run Try.prog (W1.drewN n) = .ok (.slice bo2 n2 cap2) w2 ∧ w2.heap[w.heap.size]? = some (fobj y) ∧ Calls Try.prog 42 #[rp r, .agg #[.string y.name, .slice bo2 n2 cap2, .int .i64 (y.syn : Int)]] (w2.setCell ⟨w.heap.size, 1, none⟩ (.slice bo2 n2 cap2)) fun e w' => e = .returned (.tuple #[]) ∧ Hid (∃ v3 f, RCore w' r v3 (rput f l) s.room s.power ∧ (∀ w4, RCore w4 r v3 (rput f l) s.room (spent s.power) → Touch (fun k => k = r) w' w4 → RPost r G (mAppend s k.data.toList b) w w4))) := HPut.out he (by omega)
    have HSl : ∀ W, (Instr.slice 29 (.slice y.bo y.bs.length y.cap) none (some (.int .i64 (y.bs.length : Int))) (some (.int .i64 (y.bs.length : Int)))).run Try.prog W = .ok (.slice y.bo y.bs.length y.bs.length) W := fun W => sliceB_full _ _ _ HY.out.le W
    have hq0 : (0 : Int) ≤ (y.bs.length : Int) := by omega
    have HX : Hid (appE s k.data.toList b = 0) := he
    clear HApp he h1 HSame HEnd HC1 HF HU HY HBl HE HPut h2
    generalize y.bs.length = L at *
    generalize hM : b.length = M at *
    clear hM
    generalize rsum l = U at *
    generalize s.room = rm at *
    go_wp2_with fail
    go_quiet (first | (go_at_call 41; exact Calls.quiet_of_same (HUs.out _)))
    obtain ⟨bo2, n2, cap2, w2, hrun, hf2, hput⟩ := HGo.out nq
    have HRun : Hid (_ = Result.ok (Value.slice bo2 n2 cap2) w2) := hrun
    have HPt : Hid (Calls Try.prog _ #[rp r, _] _ _) := hput
    have g0 : w2.cell? ⟨w.heap.size, 0, none⟩ = some (.string y.name) := by rw [cell_of_block hf2]; rfl
    have g1 : w2.cell? ⟨w.heap.size, 1, none⟩ = some (.slice y.bo y.bs.length y.cap) := by rw [cell_of_block hf2]; rfl
    have g2 : w2.cell? ⟨w.heap.size, 2, none⟩ = some (.int .i64 (y.syn : Int)) := by rw [cell_of_block hf2]; rfl
    have gf := free_of_block (i := 1) hf2
    have hf3 : (w2.setCell ⟨w.heap.size, 1, none⟩ (.slice bo2 n2 cap2)).heap[w.heap.size]? = some (.cells #[.string y.name, .slice bo2 n2 cap2, .int .i64 (y.syn : Int)] 69 (0, 0)) := by rw [heap_setCell_same _ _ _ _ hf2]; rfl
    have i0 : (w2.setCell ⟨w.heap.size, 1, none⟩ (.slice bo2 n2 cap2)).cell? ⟨w.heap.size, 0, none⟩ = some (.string y.name) := by rw [cell_of_block hf3]; rfl
    have i1 : (w2.setCell ⟨w.heap.size, 1, none⟩ (.slice bo2 n2 cap2)).cell? ⟨w.heap.size, 1, none⟩ = some (.slice bo2 n2 cap2) := by rw [cell_of_block hf3]; rfl
    have i2 : (w2.setCell ⟨w.heap.size, 1, none⟩ (.slice bo2 n2 cap2)).cell? ⟨w.heap.size, 2, none⟩ = some (.int .i64 (y.syn : Int)) := by rw [cell_of_block hf3]; rfl
    clear hrun hput hf2 hf3 HGo
    go_wp2_with (first | (at_builtin; refine wpList_append_runB rfl _ _ rfl _ _ _ rfl rfl HRun.out ?_))
    refine HPt.out.mono ?_
    rintro e w4 ⟨rfl, H4⟩
    obtain ⟨v3, f, q1, q2⟩ := H4.out
    have HQ1 : Hid (RCore w4 r v3 (rput f l) _ s.power) := q1
    have HQ2 : Hid (∀ w4', RCore w4' r v3 (rput f l) _ (spent s.power) → Touch (fun k => k = r) w4 w4' → RPost r G (mAppend s k.data.toList b) w w4') := q2
    clear q1 q2 H4 HPt HRun
    go_wp2_with fail
    refine (rdone_any HQ1.out).mono ?_
    rintro e w5 ⟨rfl, h3, t3⟩
    have HZ : Hid (RPost r G (mAppend s k.data.toList b) w w5) := HQ2.out w5 h3 t3
    clear h3 t3 HQ1 HQ2
    go_wp2_with fail
    go_ret
    exact ⟨by rw [HX.out]; rfl, HZ.out⟩
  | false =>
    rw [hb] at HAt
    obtain ⟨y, hy⟩ : ∃ y : RFl, y = ⟨k, none, 0, 0, [], 0⟩ := ⟨_, rfl⟩
    have hyok : RFOk w r y := by
      rw [hy]
      exact ⟨.inl rfl, fun e => absurd rfl e, fun _ => rfl, Nat.le_refl _, Nat.zero_le _, Nat.le_refl _, Nat.zero_le _, hk⟩
    have hyk : y.key = k.data.toList := by rw [hy]; rfl
    have hyat : s.at k.data.toList = (y.bs, y.syn) := by
      unfold St.at
      have hg0 : aget k.data.toList s.fs = none := by
        rw [hfs]
        cases hg0 : aget k.data.toList (absL l) with
        | none => rfl
        | some x => rw [hb, hg0] at hris; simp at hris
      rw [hg0, hy]; rfl
    have hyin : y.bs ≠ [] → ∃ x ∈ l, x.bs ≠ [] ∧ x.g = y.g := fun e => by rw [hy] at e; exact absurd rfl e
    have HY : Hid (RFOk w r y) := hyok
    have HU : Hid (rsum l ≤ 4503599627370496) := by
      have := rsum_le (w := w) (r := r) l hC.ok
      rw [Hid]; omega
    have HL : Hid (l.length ≤ 1073741823) := hll
    have HBl : Hid (b.length ≤ 140737488355328) := hbl
    have HE : Hid (appE s k.data.toList b = if 4194304 < y.bs.length + b.length ∨ s.room < (rsum l : Int) + (b.length : Int) then 42 else 0) := by
      unfold appE Hid
      rw [if_neg hp, if_neg (by rw [hnm]; decide), hyat, rsum_abs l s.room s.power, ← hfs]
    have HEnd : Hid True := trivial
    have HCc : Hid (∀ W, Touch (fun _ => False) w W → RCore W r v l s.room s.power) := fun W t => hC.touch t
    have HPut : Hid (appE s k.data.toList b = 0 → y.bs.length + b.length ≤ 4194304 → ∀ W1, Touch (fun _ => False) w W1 → W1.heap[w.heap.size]? = some (fobj y) → ∃ bo2 n2 cap2 w2, (Builtin.append_ #[29, 29] 29 #[.slice y.bo y.bs.length y.bs.length, .slice ao b.length cp]).run Try.prog W1 = .ok (.slice bo2 n2 cap2) w2 ∧ w2.heap[w.heap.size]? = some (fobj y) ∧ Calls Try.prog 42 #[rp r, .agg #[.string y.name, .slice bo2 n2 cap2, .int .i64 (y.syn : Int)]] (w2.setCell ⟨w.heap.size, 1, none⟩ (.slice bo2 n2 cap2)) fun e w' => e = .returned (.tuple #[]) ∧ Hid (∃ v3 f, RCore w' r v3 (rput f l) s.room s.power ∧ (∀ w4, RCore w4 r v3 (rput f l) s.room (spent s.power) → Touch (fun k => k = r) w' w4 → RPost r G (mAppend s k.data.toList b) w w4))) := by
      intro he hlen W1 t1 hf1
      have lk : ∀ {g : Nat} {a : Option Addr} {x : List UInt8}, Lies w g a x → Lies W1 g a x := fun h => h.keep fun e => t1.block _ (h.lt e) id
      obtain ⟨bo', cap', g', w2, hrun, hLn, t2, hno', hle', hcm', hg'⟩ := run_append_tight W1 y.g y.bo y.bs (lk hyok.lies) gb ao b b.length cp rfl hbno (lk hL) (by omega)
      have hrl : r < w.heap.size := lt_of_heap hC.cells
      have hfb : w.heap.size < W1.heap.size := lt_of_heap hf1
      have hf2 : w2.heap[w.heap.size]? = some (fobj y) := (t2.block _ hfb id).trans hf1
      have tB : Touch (fun i => i = w.heap.size) w2 (w2.setCell ⟨w.heap.size, 1, none⟩ (.slice bo' (y.bs ++ b).length cap')) := (Touch.refl _ w2).setCell _ _ fun _ => rfl
      have t12 := t1.trans t2
      have tw : Touch (fun _ => False) w (w2.setCell ⟨w.heap.size, 1, none⟩ (.slice bo' (y.bs ++ b).length cap')) := t12.then tB fun i hi e => by omega
      have hgw : y.bs ++ b ≠ [] → g' ≠ w.heap.size ∧ g' ≠ r := by
        intro e
        rcases hg' with ⟨hb0, rfl⟩ | ⟨hb0, hge⟩
        · subst hb0
          rw [List.append_nil] at e
          have := hyok.lies.lt e
          exact ⟨by omega, hyok.off e⟩
        · exact ⟨by omega, by omega⟩
      obtain ⟨f, hf⟩ : ∃ f : RFl, f = ⟨y.name, bo', cap', g', y.bs ++ b, y.syn⟩ := ⟨_, rfl⟩
      have hfo : RFOk (w2.setCell ⟨w.heap.size, 1, none⟩ (.slice bo' (y.bs ++ b).length cap')) r f := by
        rw [hf]
        refine ⟨hLn.keep fun e => tB.block g' (hLn.lt e) (hgw e).1, fun e => (hgw e).2, hno', hle', hcm', ?_, ?_, hyok.name⟩
        · have := hyok.syn; simp only [List.length_append]; omega
        · simp only [List.length_append]; omega
      have hpt := rput_any (hC.touch tw) f hfo hll
      refine ⟨_, _, _, w2, hrun, hf2, ?_⟩
      rw [hf] at hpt
      refine hpt.mono ?_
      rintro e w' ⟨he', ⟨v3, q1, q2⟩, t⟩
      rw [← hf] at q1
      refine ⟨he', v3, f, q1, fun w4 h4 t4 => ?_⟩
      unfold mAppend
      rw [if_pos he]
      refine rpost_of hG (s := s.to (aput k.data.toList ((s.at k.data.toList).1 ++ b, (s.at k.data.toList).2) s.fs)) h4 ?_ (((tw.mono fun _ _ e => e.elim).trans t).trans t4) (fun k' e => .inr (Nat.le_trans tw.size (q2 k' e))) (fun z hz hb hlt => ?_)
      · show aput k.data.toList ((s.at k.data.toList).1 ++ b, (s.at k.data.toList).2) s.fs = _
        rw [rput_abs hrA, hfs, hf, hyat, ← hyk]; rfl
      · rcases mem_rput hz with rfl | hz
        · rw [hf] at hb hlt ⊢
          simp only at hb hlt ⊢
          rcases hg' with ⟨hb0, rfl⟩ | ⟨hb0, hge⟩
          · subst hb0
            rw [List.append_nil] at hb
            exact hyin hb
          · omega
        · exact ⟨z, hz, hb, rfl⟩
    generalize (ridx k.data.toList l : Int) = I at *
    have hzo : zobj k = fobj y := by rw [hy]; rfl
    have HT0 : Hid (Touch (fun _ => False) w (w.alloc (zobj k))) := t0
    have HB0 : Hid (∀ W, Touch (fun _ => False) (w.alloc (zobj k)) W → W.heap[w.heap.size]? = some (fobj y)) := fun W t => (t.block _ (by simp) id).trans (by rw [← hzo]; exact heap_alloc_new w (zobj k))
    clear hzo hy t0 hC hfs hG hGl hris hrA hp hr hn hb hyok hyat hyin hnm hL hbno hk hyk
    go_enter Try.func10, Try.ntmps10
    go_wp2_with fail
    refine HD.out.mono ?_
    rintro e w1 ⟨rfl, hw⟩
    rw [hw]; clear hw
    go_wp2_with fail
    refine HNm.out.mono ?_
    rintro e w1 ⟨rfl, hw⟩
    rw [hw]; clear hw
    go_wp2_with fail
    refine HAt.out.mono ?_
    rintro e W1 ⟨rfl, t⟩
    have HF : Hid (W1.heap[w.heap.size]? = some (fobj y)) := HB0.out _ t
    have HT1 : Hid (Touch (fun _ => False) w W1) := HT0.out.trans t
    have HC1 : Hid (RCore W1 r _ l s.room s.power) := HCc.out W1 HT1.out
    have HPut' : Hid (appE s k.data.toList b = 0 → y.bs.length + b.length ≤ 4194304 → ∀ n, ∃ bo2 n2 cap2 w2, (Builtin.append_ #[29, 29] 29 #[.slice y.bo y.bs.length y.bs.length, .slice ao b.length cp]).run Try.prog (W1.drewN n) = .ok (.slice bo2 n2 cap2) w2 ∧ w2.heap[w.heap.size]? = some (fobj y) ∧ _) := fun h0 h1 n => HPut.out h0 h1 (W1.drewN n) (HT1.out.drewN' n) (((Touch.refl (fun _ => False) W1).drewN' n).block _ (lt_of_heap HF.out) id |>.trans HF.out)
    clear HPut HB0 HT0 HCc t
    have HPut := HPut'
    clear HPut'
    go_upto_region 9 with fail
    have n1 : W1.cell? ⟨w.heap.size, 1, none⟩ = some (.slice y.bo y.bs.length y.cap) := by rw [cell_of_block HF.out]; rfl
    have rc1 : W1.cell? ⟨r, 1, none⟩ = some (.int .i64 s.room) := HC1.out.c1
    have HUs : Hid (∀ n, Calls Try.prog 41 #[rp r] (W1.drewN n) fun e w' => e = .returned (.int .i64 (rsum l : Int)) ∧ w' = W1.drewN n) := fun n => rused_any (HC1.out.touch ((Touch.refl _ _).drewN' n)) (by have := HL.out; omega)
    have hyl := HY.out.len
    have hul := HU.out
    have hbb := HBl.out
    have hroom0 := HC1.out.room0
    have hroom1 := HC1.out.room1
    have HApp : Hid (appE s k.data.toList b = if 4194304 < y.bs.length + b.length ∨ s.room < (rsum l : Int) + (b.length : Int) then 42 else 0) := HE.out
    by_cases h1 : 4194304 < y.bs.length + b.length
    case pos =>
      have he : appE s k.data.toList b = 42 := by rw [HApp.out, if_pos (.inl h1)]
      have HQ : Hid (∀ n, RPost r G (mAppend s k.data.toList b) w (W1.drewN n)) := fun n => HSame.out _ (HT1.out.drewN' n) (by rw [he]; decide)
      have HX : Hid (appE s k.data.toList b = 42) := he
      have hd : decide ((4194304 : Int) < (y.bs.length : Int) + (b.length : Int)) = true := by rw [decide_eq_true_iff]; omega
      have hw : IntKind.i64.wrap ((y.bs.length : Int) + (b.length : Int)) = (y.bs.length : Int) + (b.length : Int) := by rw [IntKind.wrap_i64]; omega
      have h1' : (4194304 : Int) < (y.bs.length : Int) + (b.length : Int) := by omega
      clear HApp he h1 HSame HEnd HC1 HF HU HY HBl HE HPut
      generalize y.bs.length = L at *
      generalize b.length = M at *
      go_wp2_with fail
      go_quiet (fail)
      go_wp2_with fail
      go_ret
      exact ⟨by rw [HX.out]; rfl, HQ.out _⟩
    have hd : decide ((4194304 : Int) < (y.bs.length : Int) + (b.length : Int)) = false := by rw [decide_eq_false_iff_not]; omega
    have hw : IntKind.i64.wrap ((y.bs.length : Int) + (b.length : Int)) = (y.bs.length : Int) + (b.length : Int) := by rw [IntKind.wrap_i64]; omega
    have hw2 : IntKind.i64.wrap ((rsum l : Int) + (b.length : Int)) = (rsum l : Int) + (b.length : Int) := by rw [IntKind.wrap_i64]; omega
    have h1' : ¬ (4194304 : Int) < (y.bs.length : Int) + (b.length : Int) := by omega
    by_cases h2 : s.room < (rsum l : Int) + (b.length : Int)
    case pos =>
      have he : appE s k.data.toList b = 42 := by rw [HApp.out, if_pos (.inr h2)]
      have HQ : Hid (∀ n, RPost r G (mAppend s k.data.toList b) w (W1.drewN n)) := fun n => HSame.out _ (HT1.out.drewN' n) (by rw [he]; decide)
      have HX : Hid (appE s k.data.toList b = 42) := he
      have hd2 : decide (s.room < (rsum l : Int) + (b.length : Int)) = true := decide_eq_true h2
      clear HApp he h1 HSame HEnd HC1 HF HU HY HBl HE HPut
      generalize y.bs.length = L at *
      generalize b.length = M at *
      generalize rsum l = U at *
      generalize s.room = rm at *
      go_wp2_with fail
      go_quiet (first | (go_at_call 41; exact Calls.quiet_of_same (HUs.out _)))
      go_wp2_with fail
      go_ret
      exact ⟨by rw [HX.out]; rfl, HQ.out _⟩
    have he : appE s k.data.toList b = 0 := by rw [HApp.out, if_neg (by intro h; rcases h with h | h; exact h1 h; exact h2 h)]
    have hd2 : decide (s.room < (rsum l : Int) + (b.length : Int)) = false := decide_eq_false h2
    have HGo : Hid (∀ n, ∃ bo2 n2 cap2 w2, (Builtin.append_ #[29, 29] 29 #[.slice y.bo y.bs.length y.bs.length, .slice ao b.length cp]).run Try.prog (W1.drewN n) = .ok (.slice bo2 n2 cap2) w2 ∧ w2.heap[w.heap.size]? = some (fobj y) ∧ Calls Try.prog 42 #[rp r, .agg #[.string y.name, .slice bo2 n2 cap2, .int .i64 (y.syn : Int)]] (w2.setCell ⟨w.heap.size, 1, none⟩ (.slice bo2 n2 cap2)) fun e w' => e = .returned (.tuple #[]) ∧ Hid (∃ v3 f, RCore w' r v3 (rput f l) s.room s.power ∧ (∀ w4, RCore w4 r v3 (rput f l) s.room (spent s.power) → Touch (fun k => k = r) w' w4 → RPost r G (mAppend s k.data.toList b) w w4))) := HPut.out he (by omega)
    have HSl : ∀ W, (Instr.slice 29 (.slice y.bo y.bs.length y.cap) none (some (.int .i64 (y.bs.length : Int))) (some (.int .i64 (y.bs.length : Int)))).run Try.prog W = .ok (.slice y.bo y.bs.length y.bs.length) W := fun W => sliceB_full _ _ _ HY.out.le W
    have hq0 : (0 : Int) ≤ (y.bs.length : Int) := by omega
    have HX : Hid (appE s k.data.toList b = 0) := he
    clear HApp he h1 HSame HEnd HC1 HF HU HY HBl HE HPut h2
    generalize y.bs.length = L at *
    generalize hM : b.length = M at *
    clear hM
    generalize rsum l = U at *
    generalize s.room = rm at *
    go_wp2_with fail
    go_quiet (first | (go_at_call 41; exact Calls.quiet_of_same (HUs.out _)))
    obtain ⟨bo2, n2, cap2, w2, hrun, hf2, hput⟩ := HGo.out nq
    have HRun : Hid (_ = Result.ok (Value.slice bo2 n2 cap2) w2) := hrun
    have HPt : Hid (Calls Try.prog _ #[rp r, _] _ _) := hput
    have g0 : w2.cell? ⟨w.heap.size, 0, none⟩ = some (.string y.name) := by rw [cell_of_block hf2]; rfl
    have g1 : w2.cell? ⟨w.heap.size, 1, none⟩ = some (.slice y.bo y.bs.length y.cap) := by rw [cell_of_block hf2]; rfl
    have g2 : w2.cell? ⟨w.heap.size, 2, none⟩ = some (.int .i64 (y.syn : Int)) := by rw [cell_of_block hf2]; rfl
    have gf := free_of_block (i := 1) hf2
    have hf3 : (w2.setCell ⟨w.heap.size, 1, none⟩ (.slice bo2 n2 cap2)).heap[w.heap.size]? = some (.cells #[.string y.name, .slice bo2 n2 cap2, .int .i64 (y.syn : Int)] 69 (0, 0)) := by rw [heap_setCell_same _ _ _ _ hf2]; rfl
    have i0 : (w2.setCell ⟨w.heap.size, 1, none⟩ (.slice bo2 n2 cap2)).cell? ⟨w.heap.size, 0, none⟩ = some (.string y.name) := by rw [cell_of_block hf3]; rfl
    have i1 : (w2.setCell ⟨w.heap.size, 1, none⟩ (.slice bo2 n2 cap2)).cell? ⟨w.heap.size, 1, none⟩ = some (.slice bo2 n2 cap2) := by rw [cell_of_block hf3]; rfl
    have i2 : (w2.setCell ⟨w.heap.size, 1, none⟩ (.slice bo2 n2 cap2)).cell? ⟨w.heap.size, 2, none⟩ = some (.int .i64 (y.syn : Int)) := by rw [cell_of_block hf3]; rfl
    clear hrun hput hf2 hf3 HGo
    go_wp2_with (first | (at_builtin; refine wpList_append_runB rfl _ _ rfl _ _ _ rfl rfl HRun.out ?_))
    refine HPt.out.mono ?_
    rintro e w4 ⟨rfl, H4⟩
    obtain ⟨v3, f, q1, q2⟩ := H4.out
    have HQ1 : Hid (RCore w4 r v3 (rput f l) _ s.power) := q1
    have HQ2 : Hid (∀ w4', RCore w4' r v3 (rput f l) _ (spent s.power) → Touch (fun k => k = r) w4 w4' → RPost r G (mAppend s k.data.toList b) w w4') := q2
    clear q1 q2 H4 HPt HRun
    go_wp2_with fail
    refine (rdone_any HQ1.out).mono ?_
    rintro e w5 ⟨rfl, h3, t3⟩
    have HZ : Hid (RPost r G (mAppend s k.data.toList b) w w5) := HQ2.out w5 h3 t3
    clear h3 t3 HQ1 HQ2
    go_wp2_with fail
    go_ret
    exact ⟨by rw [HX.out]; rfl, HZ.out⟩
end Go.Proofs.Ytfmpbkdmcgkeoaa
