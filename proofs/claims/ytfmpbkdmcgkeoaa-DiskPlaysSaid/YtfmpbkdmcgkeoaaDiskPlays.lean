/- quirelaw4.DiskPlays. -/
import Derived.Test.YtfmpbkdmcgkeoaaTrioM
import Derived.Test.YtfmpbkdmcgkeoaaAlikeD
import Derived.Test.YtfmpbkdmcgkeoaaHelpCd
import Derived.Test.YtfmpbkdmcgkeoaaPart13
import Derived.Test.YtfmpbkdmcgkeoaaRefCr
import Derived.Test.YtfmpbkdmcgkeoaaRefT
import Derived.Test.YtfmpbkdmcgkeoaaRefU
import Derived.Test.YtfmpbkdmcgkeoaaKnown4
import Derived.Test.YtfmpbkdmcgkeoaaLight4
import Derived.Deep.RegionHeld3
import Derived.Deep.DeepCutAuto
import Derived.Deep.CutBlock
namespace Go.Proofs.Ytfmpbkdmcgkeoaa
open Go.RowKit Go.Maps
set_option linter.unusedVariables false
set_option linter.unusedSimpArgs false

theorem lRoom {w0 w : World} {d : Nat} {F : Nat → Prop} {s : St} (h : Live w0 w d F s) (r : Int) (hr : -9223372036854775808 ≤ r ∧ r ≤ 9223372036854775807) :
    Calls Try.prog 23 #[dp d, .int .i64 r] w fun e w' => e = .returned (.tuple #[]) ∧ LPost w0 d F (mRoom s r) w w' := by
  obtain ⟨m, es, hC, hR, hfs, hF, hFl⟩ := id h.disk
  refine (room_any hC r hr).mono ?_
  rintro e w' ⟨rfl, hC4, t⟩
  exact ⟨rfl, live_post h (set_post (s' := mRoom s r) hC hR hF hC4 t hfs)⟩
theorem steps_touch {w w' : World} {ao : Option Addr} {l : List StepV} (hS : Steps w ao l) (t : Touch (fun _ => False) w w') : Steps w' ao l := by
  refine ⟨fun x hx => ?_, fun i hi => ?_⟩
  · have h := hS.ok x hx
    exact ⟨h.what, h.n, h.name, h.tgt, h.bl.keep fun e => t.block _ (h.bl.lt e) id, h.bno, h.blen, h.kl.keep fun e => t.block _ (h.kl.lt e) id, h.klen, h.kin⟩
  · obtain ⟨g, off, e, hA⟩ := hS.cells i hi
    exact ⟨g, off, e, hA.touch t⟩
/-- The step's own block, as it was laid. -/
def OneB (xb : Nat) (k : Nat) : Prop := k = xb

set_option maxRecDepth 100000 in
set_option maxHeartbeats 16000000 in
theorem diskPlays_any (w : World) (room : Int) (hroom : -9223372036854775808 ≤ room ∧ room ≤ 9223372036854775807) (ao : Option Addr) (l : List StepV) (n0 c0 : Nat) (hn0 : n0 = l.length) (hS : Steps w ao l) (hlen : l.length ≤ 140737488355328) :
    Calls Try.prog 3 #[.int .i64 room, .slice ao n0 c0] w fun e w' => e = .returned (.bool true) ∧ Touch (fun _ => False) w w' := by
  subst hn0
  have HK : Hid (Calls Try.prog 4 #[] w fun e w' => e = .returned (.bool true) ∧ Touch (fun _ => False) w w') := known_any w
  have HSt : Hid (∀ W, Touch (fun _ => False) w W → Steps W ao l) := fun W t => steps_touch hS t
  have HLi : Hid (∀ W, Touch (fun _ => False) w W → Calls Try.prog 5 #[.slice ao l.length c0] W fun e w' => e = .returned (.bool (isLight l)) ∧ Touch (fun _ => False) W w') := fun W t => light_any W ao l l.length c0 rfl (HSt.out W t) hlen
  have hnot : ∀ (x : Bool) (w : World), (Op.unary .not (.bool x)).run Try.prog w = .ok (.bool (!x)) w := fun _ _ => rfl
  clear hS
  cases hli : isLight l with
  | false =>
    rw [hli] at HLi
    go_enter Try.func3, Try.ntmps3
    go_wp2_with fail
    refine HK.out.mono ?_
    rintro e w1 ⟨rfl, hT1⟩
    have HT1 : Hid (Touch (fun _ => False) w w1) := hT1
    clear hT1 HK
    go_wp2_with fail
    refine (HLi.out w1 HT1.out).mono ?_
    rintro e w2 ⟨rfl, hT2⟩
    have HT2 : Hid (Touch (fun _ => False) w w2) := HT1.out.trans hT2
    clear hT2 HLi
    go_wp2_with fail
    go_ret
    exact ⟨rfl, HT2.out⟩
  | true =>
    rw [hli] at HLi
    have hl3 : l.length ≤ 300 := by unfold isLight at hli; simp at hli; exact hli.1
    clear hli
    go_enter Try.func3, Try.ntmps3
    go_wp2_with fail
    refine HK.out.mono ?_
    rintro e w1 ⟨rfl, hT1⟩
    have HT1 : Hid (Touch (fun _ => False) w w1) := hT1
    clear hT1 HK
    go_wp2_with fail
    refine (HLi.out w1 HT1.out).mono ?_
    rintro e wb ⟨rfl, hT2⟩
    have HTb : Hid (Touch (fun _ => False) w wb) := HT1.out.trans hT2
    have HS : Hid (Steps wb ao l) := HSt.out wb HTb.out
    clear hT2 HLi HT1 HSt
    go_wp2_with fail
    refine (lNew room hroom wb).mono ?_
    rintro e w2 ⟨d0, F0, rfl, hd⟩
    have HD : Hid (Live wb w2 d0 F0 (newSt room)) := hd
    clear hd
    go_wp2_with fail
    refine (rNew_any room hroom w2).mono ?_
    rintro e w3 ⟨r0, G0, rfl, hR, t3, hG⟩
    have HP0 : Hid (Pair wb w3 d0 r0 F0 G0 (newSt room)) := by
      refine ⟨HD.out.touch t3, hR, fun k hk => Nat.le_trans HD.out.since.size (hG k hk), fun k hk hg => ?_⟩
      have := HD.out.disk.lt hk
      have := hG k hg
      omega
    clear HD hR t3 hG
    go_wp2_with fail
    go_loopw [5, 6, 7] (fun a b i wr => ∃ (k d r : Nat) (F G : Nat → Prop) (s : St), a = dp d ∧ b = rp r ∧ i = .int .i64 (k : Int) ∧ k ≤ l.length ∧ Hid (Pair wb wr d r F G s ∧ s.fs.length ≤ k)) (fun _ _ i _ => (l.length - intOf i).toNat)
    case atStart => exact ⟨0, d0, r0, F0, G0, _, rfl, rfl, rfl, Nat.zero_le _, HP0.out, Nat.le_refl _⟩
    case round =>
      obtain ⟨k, d, r, F, G, s, rfl, rfl, rfl, hk, HP⟩ := hrel
      clear HP0
      by_cases hlt : k < l.length
      · obtain ⟨g, off, rfl, hA⟩ := HS.out.cells k hlt
        have hA2 := hA.touch HP.out.1.live.since
        have hok := HS.out.ok l[k] (List.getElem_mem hlt)
        have hsl : s.fs.length ≤ 1073741823 := by have := HP.out.2; omega
        have hsk : s.fs.length ≤ k := HP.out.2
        obtain ⟨x, hx⟩ : ∃ x, x = l[k] := ⟨_, rfl⟩
        rw [← hx] at hA2 hok
        have hzn : x.name.size ≤ 281474976710656 := by have := hok.name; omega
        have hzt : x.tgt.size ≤ 281474976710656 := by have := hok.tgt; omega
        have c0' := hA2.c0
        have c1' := hA2.c1
        have c2' := hA2.c2
        have c3' := hA2.c3
        have c4' := hA2.c4
        have c5' := hA2.c5
        have HX : Hid (StepOk wb x) := hok
        obtain ⟨wa, hwa⟩ : ∃ wa, Hid (wa = wr.alloc (.cells #[.int .i64 x.what, .int .i64 x.n, .string x.name, .string x.tgt, .slice x.bo x.b.length x.bcap, .slice x.ko x.keep.length x.kcap] 32)) := ⟨_, Eq.refl _⟩
        obtain ⟨xb, hxb⟩ : ∃ xb, Hid (xb = wr.heap.size) := ⟨_, Eq.refl _⟩
        have HXB : Hid (wa.heap[xb]? = some (.cells #[.int .i64 x.what, .int .i64 x.n, .string x.name, .string x.tgt, .slice x.bo x.b.length x.bcap, .slice x.ko x.keep.length x.kcap] 32)) := by rw [hwa.out, hxb.out]; exact heap_alloc_new _ _
        have HTa : Hid (Trio wb wa (OneB xb) wa d r F G s s) := by
          refine Trio.start (HP.out.1.touch (by rw [hwa.out]; exact (Touch.refl _ _).alloc _)) fun k hk => ?_
          have e : k = wr.heap.size := (show k = xb from hk).trans hxb.out
          exact ⟨by rw [hwa.out, e]; simp, HP.out.1.fresh (by omega)⟩
        have a0 : wa.cell? ⟨xb, 0, none⟩ = some (.int .i64 x.what) := by rw [cell_of_block HXB.out]; rfl
        have a1 : wa.cell? ⟨xb, 1, none⟩ = some (.int .i64 x.n) := by rw [cell_of_block HXB.out]; rfl
        have a2 : wa.cell? ⟨xb, 2, none⟩ = some (.string x.name) := by rw [cell_of_block HXB.out]; rfl
        have a3 : wa.cell? ⟨xb, 3, none⟩ = some (.string x.tgt) := by rw [cell_of_block HXB.out]; rfl
        have a4 : wa.cell? ⟨xb, 4, none⟩ = some (.slice x.bo x.b.length x.bcap) := by rw [cell_of_block HXB.out]; rfl
        have a5 : wa.cell? ⟨xb, 5, none⟩ = some (.slice x.ko x.keep.length x.kcap) := by rw [cell_of_block HXB.out]; rfl
        clear hA hA2 hok hx HP
        go_upto_region 11 with fail
        rw [← hwa.out, ← hxb.out]
        clear hwa hxb c0' c1' c2' c3' c4' c5'
        go_upto_block 2 with fail
        go_cut [5, 6, 9, 10, 11, 12, 13, 14, 15, 16] (fun t5 t6 t9 t10 _ _ _ _ _ _ wx => ∃ (dd rr : Nat) (E : Int) (F' G' : Nat → Prop) (s' : St), t5 = dp dd ∧ t6 = rp rr ∧ t9 = .int .i64 E ∧ t10 = .int .i64 E ∧ Hid (Pair wb wx dd rr F' G' s' ∧ s'.fs.length ≤ k + 1))
        case first =>
          by_cases hw : x.what = 0
          · as_aux_lemma =>
              have hwb : (x.what == 0) = true := by simpa using hw
              clear hw
              obtain ⟨E, hE⟩ : ∃ E, E = appE s x.name.data.toList x.b := ⟨_, rfl⟩
              obtain ⟨s1, hs1⟩ : ∃ s1, s1 = mAppend s x.name.data.toList x.b := ⟨_, rfl⟩
              have hs1l : s1.fs.length ≤ k + 1 := by rw [hs1]; have := mAppend_len s x.name.data.toList x.b; omega
              have HCp : Hid (Calls Try.prog 8 #[.slice x.bo x.b.length x.bcap] wa (ClonePost x.b wa)) := help_copy x.bg x.bo x.b x.b.length x.bcap rfl HX.out.bno wa (HX.out.bl.keep fun e => HTa.out.duo.live.since.block x.bg (HX.out.bl.lt e) id) HX.out.blen
              go_wp2_with fail
              refine HCp.out.mono ?_
              rintro e w5 ⟨v5, rfl, hown, t5⟩
              have HTb : Hid (Trio wb w5 (fun k => k = xb ∨ v5.ownBlock = some k) w5 d r F G s s) := by
                refine Trio.start (HTa.out.touch t5).duo fun k hk => ?_
                rcases hk with rfl | hk
                · exact ⟨Nat.lt_of_lt_of_le (HTa.out.lt k rfl) t5.size, HTa.out.xF k rfl, HTa.out.xG k rfl⟩
                · have hl := hown.lt k hk
                  exact ⟨hl.2, HTa.out.duo.fresh hl.1⟩
              obtain ⟨io, icap, ig, hv5, hLi, hino, -⟩ := lies_of_owned hown
              have hB5 : w5.heap[xb]? = some (.cells #[.int .i64 x.what, .int .i64 x.n, .string x.name, .string x.tgt, .slice x.bo x.b.length x.bcap, .slice x.ko x.keep.length x.kcap] 32) := (t5.block xb (HTa.out.lt xb rfl) id).trans HXB.out
              have HXB5 : Hid (w5.heap[xb]? = some (.cells #[.int .i64 x.what, .int .i64 x.n, .string x.name, .string x.tgt, .slice x.bo x.b.length x.bcap, .slice x.ko x.keep.length x.kcap] 32)) := hB5
              have b2 : w5.cell? ⟨xb, 2, none⟩ = some (.string x.name) := by rw [cell_of_block hB5]; rfl
              have b4 : w5.cell? ⟨xb, 4, none⟩ = some (.slice x.bo x.b.length x.bcap) := by rw [cell_of_block hB5]; rfl
              have HOwn : Hid (∀ W F' G' sa sb, Trio wb w5 (fun k => k = xb ∨ v5.ownBlock = some k) W d r F' G' sa sb → W.ownsRow wa.heap.size 5 1 v5 x.b.length (cellsOf x.b)) := by
                intro W F' G' sa sb hT
                refine ⟨hown.1, ?_⟩
                rcases hown.2 with h | ⟨g, cap, cur, e, hb, hg, q⟩
                · exact .inl h
                · exact .inr ⟨g, cap, cur, e, hb, (hT.same g (.inr (by rw [e]; rfl))).trans hg, q⟩
              have HBase : Hid (wb.heap.size ≤ wa.heap.size) := HTa.out.duo.live.since.size
              have HC1 : Hid (Calls Try.prog 9 #[dp d, .string x.name, .slice io x.b.length icap] w5.drew fun e w' => e = .returned (.int .i64 E) ∧ (w'.cell? ⟨xb, 2, none⟩ = some (.string x.name) ∧ w'.cell? ⟨xb, 4, none⟩ = some (.slice x.bo x.b.length x.bcap)) ∧ Hid (∃ F', Trio wb w5 (fun k => k = xb ∨ v5.ownBlock = some k) w' d r F' G s1 s)) := by
                have hT := HTb.out.touch ((Touch.refl _ w5).drew)
                rw [hE, hs1]
                refine (lAppend hT.duo.live hsl x.name hzn ig io x.b x.b.length icap rfl hino (hLi.keep fun e => rfl) HX.out.blen).mono ?_
                rintro e w' ⟨he, hq⟩
                obtain ⟨F', hT'⟩ := hT.fst hq
                exact ⟨he, ⟨by rw [cell_of_block ((hT'.same xb (.inl rfl)).trans HXB5.out)]; rfl, by rw [cell_of_block ((hT'.same xb (.inl rfl)).trans HXB5.out)]; rfl⟩, F', hT'⟩
              have HC2 : Hid (∀ W, (∃ F', Trio wb w5 (fun k => k = xb ∨ v5.ownBlock = some k) W d r F' G s1 s) → Calls Try.prog 10 #[rp r, .string x.name, .slice x.bo x.b.length x.bcap] W fun e w' => e = .returned (.int .i64 E) ∧ (w'.cell? ⟨xb, 2, none⟩ = some (.string x.name) ∧ w'.cell? ⟨xb, 4, none⟩ = some (.slice x.bo x.b.length x.bcap)) ∧ Hid (∃ F' G', Trio wb w5 (fun k => k = xb ∨ v5.ownBlock = some k) w' d r F' G' s1 s1)) := by
                rintro W ⟨F', hT⟩
                have hr0 := HTa.out.duo.live.rising
                rw [hE, hs1]
                refine (rappend_any hT.duo.ref hr0 hsl x.name hzn x.bg x.bo x.b x.b.length x.bcap rfl HX.out.bno (HX.out.bl.keep fun e => hT.duo.live.since.block x.bg (HX.out.bl.lt e) id) HX.out.blen).mono ?_
                rintro e w' ⟨he, hq⟩
                rw [hs1] at hT
                obtain ⟨G', hT'⟩ := hT.snd hq
                exact ⟨he, ⟨by rw [cell_of_block ((hT'.same xb (.inl rfl)).trans HXB5.out)]; rfl, by rw [cell_of_block ((hT'.same xb (.inl rfl)).trans HXB5.out)]; rfl⟩, F', G', hT'⟩
              have HSp : Hid (∀ W, (∃ F' G', Trio wb w5 (fun k => k = xb ∨ v5.ownBlock = some k) W d r F' G' s1 s1) → Calls Try.prog 11 #[.slice io x.b.length icap] W fun e w' => e = .returned (.tuple #[]) ∧ Hid (∃ F' G', Pair wb w' d r F' G' s1)) := by
                rintro W ⟨F', G', hT⟩
                have ho := HOwn.out W F' G' s1 s1 hT
                rw [hv5] at ho
                have hxl := HX.out.blen
                refine (spoil_owned wa.heap.size _ x.b W (by omega) ho).mono ?_
                rintro e w' ⟨rfl, t⟩
                exact ⟨rfl, F', G', hT.spoil t (fun k hk => .inr (by rw [hv5]; exact hk.2)) (fun k hk => Nat.le_trans HBase.out hk.1)⟩
              rw [hv5]
              have HS0 : w5.drew.cell? ⟨xb, 2, none⟩ = some (.string x.name) ∧ w5.drew.cell? ⟨xb, 4, none⟩ = some (.slice x.bo x.b.length x.bcap) := ⟨b2, b4⟩
              clear hE hs1 HTa HXB HX HCp hown t5 HTb hLi hino hB5 HXB5 HOwn HBase hv5
              go_wp2_with fail
              go_region_held3 (fun W => W.cell? ⟨xb, 2, none⟩ = some (.string x.name) ∧ W.cell? ⟨xb, 4, none⟩ = some (.slice x.bo x.b.length x.bcap)) (first | assumption | exact HS0)
                (first
                  | (go_at_call 9; (with_reducible refine HC1.out.mono ?_); rintro e w2 ⟨rfl, hS2, hq⟩; have HM : Hid (∃ F', Trio wb w5 (fun k => k = xb ∨ v5.ownBlock = some k) w2 d r F' G s1 s) := hq; clear hq)
                  | (go_at_call 10; (with_reducible refine (HC2.out _ HM.out).mono ?_); rintro e w3 ⟨rfl, hS2, hq⟩; have HM3 : Hid (∃ F' G', Trio wb w5 (fun k => k = xb ∨ v5.ownBlock = some k) w3 d r F' G' s1 s1) := hq; clear hq))
              clear HC1 HC2 HM hS2 HS0 b2 b4
              go_wp2_with fail
              refine (HSp.out _ HM3.out).mono ?_
              rintro e w7 ⟨rfl, hq⟩
              obtain ⟨F9, G9, hT9⟩ := hq.out
              have HZ : Hid (Pair wb w7 d r F9 G9 s1 ∧ s1.fs.length ≤ k + 1) := ⟨hT9, hs1l⟩
              clear hq hT9 HSp HM3
              go_wp2_with fail
              go_meet
              case rel => exact ⟨d, r, _, F9, G9, _, rfl, rfl, rfl, rfl, HZ⟩
          have hw0 : (x.what == 0) = false := by simpa using hw
          clear hw
          by_cases hw : x.what = 1
          · as_aux_lemma =>
              have hwb : (x.what == 1) = true := by simpa using hw
              clear hw
              obtain ⟨E, hE⟩ : ∃ E, E = appE s x.name.data.toList x.b := ⟨_, rfl⟩
              obtain ⟨s1, hs1⟩ : ∃ s1, s1 = mAppend s x.name.data.toList x.b := ⟨_, rfl⟩
              have hs1l : s1.fs.length ≤ k + 1 := by rw [hs1]; have := mAppend_len s x.name.data.toList x.b; omega
              have HCp : Hid (Calls Try.prog 8 #[.slice x.bo x.b.length x.bcap] wa (ClonePost x.b wa)) := help_copy x.bg x.bo x.b x.b.length x.bcap rfl HX.out.bno wa (HX.out.bl.keep fun e => HTa.out.duo.live.since.block x.bg (HX.out.bl.lt e) id) HX.out.blen
              go_wp2_with fail
              refine HCp.out.mono ?_
              rintro e w5 ⟨v5, rfl, hown, t5⟩
              have HTb : Hid (Trio wb w5 (fun k => k = xb ∨ v5.ownBlock = some k) w5 d r F G s s) := by
                refine Trio.start (HTa.out.touch t5).duo fun k hk => ?_
                rcases hk with rfl | hk
                · exact ⟨Nat.lt_of_lt_of_le (HTa.out.lt k rfl) t5.size, HTa.out.xF k rfl, HTa.out.xG k rfl⟩
                · have hl := hown.lt k hk
                  exact ⟨hl.2, HTa.out.duo.fresh hl.1⟩
              obtain ⟨io, icap, ig, hv5, hLi, hino, -⟩ := lies_of_owned hown
              have hB5 : w5.heap[xb]? = some (.cells #[.int .i64 x.what, .int .i64 x.n, .string x.name, .string x.tgt, .slice x.bo x.b.length x.bcap, .slice x.ko x.keep.length x.kcap] 32) := (t5.block xb (HTa.out.lt xb rfl) id).trans HXB.out
              have HXB5 : Hid (w5.heap[xb]? = some (.cells #[.int .i64 x.what, .int .i64 x.n, .string x.name, .string x.tgt, .slice x.bo x.b.length x.bcap, .slice x.ko x.keep.length x.kcap] 32)) := hB5
              have b2 : w5.cell? ⟨xb, 2, none⟩ = some (.string x.name) := by rw [cell_of_block hB5]; rfl
              have b4 : w5.cell? ⟨xb, 4, none⟩ = some (.slice x.bo x.b.length x.bcap) := by rw [cell_of_block hB5]; rfl
              have HOwn : Hid (∀ W F' G' sa sb, Trio wb w5 (fun k => k = xb ∨ v5.ownBlock = some k) W d r F' G' sa sb → W.ownsRow wa.heap.size 5 1 v5 x.b.length (cellsOf x.b)) := by
                intro W F' G' sa sb hT
                refine ⟨hown.1, ?_⟩
                rcases hown.2 with h | ⟨g, cap, cur, e, hb, hg, q⟩
                · exact .inl h
                · exact .inr ⟨g, cap, cur, e, hb, (hT.same g (.inr (by rw [e]; rfl))).trans hg, q⟩
              have HBase : Hid (wb.heap.size ≤ wa.heap.size) := HTa.out.duo.live.since.size
              have HC1 : Hid (Calls Try.prog 9 #[dp d, .string x.name, .slice io x.b.length icap] w5.drew fun e w' => e = .returned (.int .i64 E) ∧ (w'.cell? ⟨xb, 2, none⟩ = some (.string x.name) ∧ w'.cell? ⟨xb, 4, none⟩ = some (.slice x.bo x.b.length x.bcap)) ∧ Hid (∃ F', Trio wb w5 (fun k => k = xb ∨ v5.ownBlock = some k) w' d r F' G s1 s)) := by
                have hT := HTb.out.touch ((Touch.refl _ w5).drew)
                rw [hE, hs1]
                refine (lAppend hT.duo.live hsl x.name hzn ig io x.b x.b.length icap rfl hino (hLi.keep fun e => rfl) HX.out.blen).mono ?_
                rintro e w' ⟨he, hq⟩
                obtain ⟨F', hT'⟩ := hT.fst hq
                exact ⟨he, ⟨by rw [cell_of_block ((hT'.same xb (.inl rfl)).trans HXB5.out)]; rfl, by rw [cell_of_block ((hT'.same xb (.inl rfl)).trans HXB5.out)]; rfl⟩, F', hT'⟩
              have HC2 : Hid (∀ W, (∃ F', Trio wb w5 (fun k => k = xb ∨ v5.ownBlock = some k) W d r F' G s1 s) → Calls Try.prog 10 #[rp r, .string x.name, .slice x.bo x.b.length x.bcap] W fun e w' => e = .returned (.int .i64 E) ∧ (w'.cell? ⟨xb, 2, none⟩ = some (.string x.name) ∧ w'.cell? ⟨xb, 4, none⟩ = some (.slice x.bo x.b.length x.bcap)) ∧ Hid (∃ F' G', Trio wb w5 (fun k => k = xb ∨ v5.ownBlock = some k) w' d r F' G' s1 s1)) := by
                rintro W ⟨F', hT⟩
                have hr0 := HTa.out.duo.live.rising
                rw [hE, hs1]
                refine (rappend_any hT.duo.ref hr0 hsl x.name hzn x.bg x.bo x.b x.b.length x.bcap rfl HX.out.bno (HX.out.bl.keep fun e => hT.duo.live.since.block x.bg (HX.out.bl.lt e) id) HX.out.blen).mono ?_
                rintro e w' ⟨he, hq⟩
                rw [hs1] at hT
                obtain ⟨G', hT'⟩ := hT.snd hq
                exact ⟨he, ⟨by rw [cell_of_block ((hT'.same xb (.inl rfl)).trans HXB5.out)]; rfl, by rw [cell_of_block ((hT'.same xb (.inl rfl)).trans HXB5.out)]; rfl⟩, F', G', hT'⟩
              have HSp : Hid (∀ W, (∃ F' G', Trio wb w5 (fun k => k = xb ∨ v5.ownBlock = some k) W d r F' G' s1 s1) → Calls Try.prog 11 #[.slice io x.b.length icap] W fun e w' => e = .returned (.tuple #[]) ∧ Hid (∃ F' G', Pair wb w' d r F' G' s1)) := by
                rintro W ⟨F', G', hT⟩
                have ho := HOwn.out W F' G' s1 s1 hT
                rw [hv5] at ho
                have hxl := HX.out.blen
                refine (spoil_owned wa.heap.size _ x.b W (by omega) ho).mono ?_
                rintro e w' ⟨rfl, t⟩
                exact ⟨rfl, F', G', hT.spoil t (fun k hk => .inr (by rw [hv5]; exact hk.2)) (fun k hk => Nat.le_trans HBase.out hk.1)⟩
              rw [hv5]
              have HS0 : w5.drew.cell? ⟨xb, 2, none⟩ = some (.string x.name) ∧ w5.drew.cell? ⟨xb, 4, none⟩ = some (.slice x.bo x.b.length x.bcap) := ⟨b2, b4⟩
              clear hE hs1 HTa HXB HX HCp hown t5 HTb hLi hino hB5 HXB5 HOwn HBase hv5
              go_wp2_with fail
              go_region_held3 (fun W => W.cell? ⟨xb, 2, none⟩ = some (.string x.name) ∧ W.cell? ⟨xb, 4, none⟩ = some (.slice x.bo x.b.length x.bcap)) (first | assumption | exact HS0)
                (first
                  | (go_at_call 9; (with_reducible refine HC1.out.mono ?_); rintro e w2 ⟨rfl, hS2, hq⟩; have HM : Hid (∃ F', Trio wb w5 (fun k => k = xb ∨ v5.ownBlock = some k) w2 d r F' G s1 s) := hq; clear hq)
                  | (go_at_call 10; (with_reducible refine (HC2.out _ HM.out).mono ?_); rintro e w3 ⟨rfl, hS2, hq⟩; have HM3 : Hid (∃ F' G', Trio wb w5 (fun k => k = xb ∨ v5.ownBlock = some k) w3 d r F' G' s1 s1) := hq; clear hq))
              clear HC1 HC2 HM hS2 HS0 b2 b4
              go_wp2_with fail
              refine (HSp.out _ HM3.out).mono ?_
              rintro e w7 ⟨rfl, hq⟩
              obtain ⟨F9, G9, hT9⟩ := hq.out
              have HZ : Hid (Pair wb w7 d r F9 G9 s1 ∧ s1.fs.length ≤ k + 1) := ⟨hT9, hs1l⟩
              clear hq hT9 HSp HM3
              go_wp2_with fail
              go_meet
              case rel => exact ⟨d, r, _, F9, G9, _, rfl, rfl, rfl, rfl, HZ⟩
          have hw1 : (x.what == 1) = false := by simpa using hw
          clear hw
          by_cases hw : x.what = 2
          · as_aux_lemma =>
              have hwb : (x.what == 2) = true := by simpa using hw
              clear hw
              obtain ⟨E, hE⟩ : ∃ E, E = appE s x.name.data.toList x.b := ⟨_, rfl⟩
              obtain ⟨s1, hs1⟩ : ∃ s1, s1 = mAppend s x.name.data.toList x.b := ⟨_, rfl⟩
              have hs1l : s1.fs.length ≤ k + 1 := by rw [hs1]; have := mAppend_len s x.name.data.toList x.b; omega
              have HCp : Hid (Calls Try.prog 8 #[.slice x.bo x.b.length x.bcap] wa (ClonePost x.b wa)) := help_copy x.bg x.bo x.b x.b.length x.bcap rfl HX.out.bno wa (HX.out.bl.keep fun e => HTa.out.duo.live.since.block x.bg (HX.out.bl.lt e) id) HX.out.blen
              go_wp2_with fail
              refine HCp.out.mono ?_
              rintro e w5 ⟨v5, rfl, hown, t5⟩
              have HTb : Hid (Trio wb w5 (fun k => k = xb ∨ v5.ownBlock = some k) w5 d r F G s s) := by
                refine Trio.start (HTa.out.touch t5).duo fun k hk => ?_
                rcases hk with rfl | hk
                · exact ⟨Nat.lt_of_lt_of_le (HTa.out.lt k rfl) t5.size, HTa.out.xF k rfl, HTa.out.xG k rfl⟩
                · have hl := hown.lt k hk
                  exact ⟨hl.2, HTa.out.duo.fresh hl.1⟩
              obtain ⟨io, icap, ig, hv5, hLi, hino, -⟩ := lies_of_owned hown
              have hB5 : w5.heap[xb]? = some (.cells #[.int .i64 x.what, .int .i64 x.n, .string x.name, .string x.tgt, .slice x.bo x.b.length x.bcap, .slice x.ko x.keep.length x.kcap] 32) := (t5.block xb (HTa.out.lt xb rfl) id).trans HXB.out
              have HXB5 : Hid (w5.heap[xb]? = some (.cells #[.int .i64 x.what, .int .i64 x.n, .string x.name, .string x.tgt, .slice x.bo x.b.length x.bcap, .slice x.ko x.keep.length x.kcap] 32)) := hB5
              have b2 : w5.cell? ⟨xb, 2, none⟩ = some (.string x.name) := by rw [cell_of_block hB5]; rfl
              have b4 : w5.cell? ⟨xb, 4, none⟩ = some (.slice x.bo x.b.length x.bcap) := by rw [cell_of_block hB5]; rfl
              have HOwn : Hid (∀ W F' G' sa sb, Trio wb w5 (fun k => k = xb ∨ v5.ownBlock = some k) W d r F' G' sa sb → W.ownsRow wa.heap.size 5 1 v5 x.b.length (cellsOf x.b)) := by
                intro W F' G' sa sb hT
                refine ⟨hown.1, ?_⟩
                rcases hown.2 with h | ⟨g, cap, cur, e, hb, hg, q⟩
                · exact .inl h
                · exact .inr ⟨g, cap, cur, e, hb, (hT.same g (.inr (by rw [e]; rfl))).trans hg, q⟩
              have HBase : Hid (wb.heap.size ≤ wa.heap.size) := HTa.out.duo.live.since.size
              have HC1 : Hid (Calls Try.prog 9 #[dp d, .string x.name, .slice io x.b.length icap] w5.drew fun e w' => e = .returned (.int .i64 E) ∧ (w'.cell? ⟨xb, 2, none⟩ = some (.string x.name) ∧ w'.cell? ⟨xb, 4, none⟩ = some (.slice x.bo x.b.length x.bcap)) ∧ Hid (∃ F', Trio wb w5 (fun k => k = xb ∨ v5.ownBlock = some k) w' d r F' G s1 s)) := by
                have hT := HTb.out.touch ((Touch.refl _ w5).drew)
                rw [hE, hs1]
                refine (lAppend hT.duo.live hsl x.name hzn ig io x.b x.b.length icap rfl hino (hLi.keep fun e => rfl) HX.out.blen).mono ?_
                rintro e w' ⟨he, hq⟩
                obtain ⟨F', hT'⟩ := hT.fst hq
                exact ⟨he, ⟨by rw [cell_of_block ((hT'.same xb (.inl rfl)).trans HXB5.out)]; rfl, by rw [cell_of_block ((hT'.same xb (.inl rfl)).trans HXB5.out)]; rfl⟩, F', hT'⟩
              have HC2 : Hid (∀ W, (∃ F', Trio wb w5 (fun k => k = xb ∨ v5.ownBlock = some k) W d r F' G s1 s) → Calls Try.prog 10 #[rp r, .string x.name, .slice x.bo x.b.length x.bcap] W fun e w' => e = .returned (.int .i64 E) ∧ (w'.cell? ⟨xb, 2, none⟩ = some (.string x.name) ∧ w'.cell? ⟨xb, 4, none⟩ = some (.slice x.bo x.b.length x.bcap)) ∧ Hid (∃ F' G', Trio wb w5 (fun k => k = xb ∨ v5.ownBlock = some k) w' d r F' G' s1 s1)) := by
                rintro W ⟨F', hT⟩
                have hr0 := HTa.out.duo.live.rising
                rw [hE, hs1]
                refine (rappend_any hT.duo.ref hr0 hsl x.name hzn x.bg x.bo x.b x.b.length x.bcap rfl HX.out.bno (HX.out.bl.keep fun e => hT.duo.live.since.block x.bg (HX.out.bl.lt e) id) HX.out.blen).mono ?_
                rintro e w' ⟨he, hq⟩
                rw [hs1] at hT
                obtain ⟨G', hT'⟩ := hT.snd hq
                exact ⟨he, ⟨by rw [cell_of_block ((hT'.same xb (.inl rfl)).trans HXB5.out)]; rfl, by rw [cell_of_block ((hT'.same xb (.inl rfl)).trans HXB5.out)]; rfl⟩, F', G', hT'⟩
              have HSp : Hid (∀ W, (∃ F' G', Trio wb w5 (fun k => k = xb ∨ v5.ownBlock = some k) W d r F' G' s1 s1) → Calls Try.prog 11 #[.slice io x.b.length icap] W fun e w' => e = .returned (.tuple #[]) ∧ Hid (∃ F' G', Pair wb w' d r F' G' s1)) := by
                rintro W ⟨F', G', hT⟩
                have ho := HOwn.out W F' G' s1 s1 hT
                rw [hv5] at ho
                have hxl := HX.out.blen
                refine (spoil_owned wa.heap.size _ x.b W (by omega) ho).mono ?_
                rintro e w' ⟨rfl, t⟩
                exact ⟨rfl, F', G', hT.spoil t (fun k hk => .inr (by rw [hv5]; exact hk.2)) (fun k hk => Nat.le_trans HBase.out hk.1)⟩
              rw [hv5]
              have HS0 : w5.drew.cell? ⟨xb, 2, none⟩ = some (.string x.name) ∧ w5.drew.cell? ⟨xb, 4, none⟩ = some (.slice x.bo x.b.length x.bcap) := ⟨b2, b4⟩
              clear hE hs1 HTa HXB HX HCp hown t5 HTb hLi hino hB5 HXB5 HOwn HBase hv5
              go_wp2_with fail
              go_region_held3 (fun W => W.cell? ⟨xb, 2, none⟩ = some (.string x.name) ∧ W.cell? ⟨xb, 4, none⟩ = some (.slice x.bo x.b.length x.bcap)) (first | assumption | exact HS0)
                (first
                  | (go_at_call 9; (with_reducible refine HC1.out.mono ?_); rintro e w2 ⟨rfl, hS2, hq⟩; have HM : Hid (∃ F', Trio wb w5 (fun k => k = xb ∨ v5.ownBlock = some k) w2 d r F' G s1 s) := hq; clear hq)
                  | (go_at_call 10; (with_reducible refine (HC2.out _ HM.out).mono ?_); rintro e w3 ⟨rfl, hS2, hq⟩; have HM3 : Hid (∃ F' G', Trio wb w5 (fun k => k = xb ∨ v5.ownBlock = some k) w3 d r F' G' s1 s1) := hq; clear hq))
              clear HC1 HC2 HM hS2 HS0 b2 b4
              go_wp2_with fail
              refine (HSp.out _ HM3.out).mono ?_
              rintro e w7 ⟨rfl, hq⟩
              obtain ⟨F9, G9, hT9⟩ := hq.out
              have HZ : Hid (Pair wb w7 d r F9 G9 s1 ∧ s1.fs.length ≤ k + 1) := ⟨hT9, hs1l⟩
              clear hq hT9 HSp HM3
              go_wp2_with fail
              go_meet
              case rel => exact ⟨d, r, _, F9, G9, _, rfl, rfl, rfl, rfl, HZ⟩
          have hw2 : (x.what == 2) = false := by simpa using hw
          clear hw
          by_cases hw : x.what = 3
          · as_aux_lemma =>
              have hwb : (x.what == 3) = true := by simpa using hw
              clear hw
              obtain ⟨E, hE⟩ : ∃ E, E = appE s x.name.data.toList x.b := ⟨_, rfl⟩
              obtain ⟨s1, hs1⟩ : ∃ s1, s1 = mAppend s x.name.data.toList x.b := ⟨_, rfl⟩
              have hs1l : s1.fs.length ≤ k + 1 := by rw [hs1]; have := mAppend_len s x.name.data.toList x.b; omega
              have HCp : Hid (Calls Try.prog 8 #[.slice x.bo x.b.length x.bcap] wa (ClonePost x.b wa)) := help_copy x.bg x.bo x.b x.b.length x.bcap rfl HX.out.bno wa (HX.out.bl.keep fun e => HTa.out.duo.live.since.block x.bg (HX.out.bl.lt e) id) HX.out.blen
              go_wp2_with fail
              refine HCp.out.mono ?_
              rintro e w5 ⟨v5, rfl, hown, t5⟩
              have HTb : Hid (Trio wb w5 (fun k => k = xb ∨ v5.ownBlock = some k) w5 d r F G s s) := by
                refine Trio.start (HTa.out.touch t5).duo fun k hk => ?_
                rcases hk with rfl | hk
                · exact ⟨Nat.lt_of_lt_of_le (HTa.out.lt k rfl) t5.size, HTa.out.xF k rfl, HTa.out.xG k rfl⟩
                · have hl := hown.lt k hk
                  exact ⟨hl.2, HTa.out.duo.fresh hl.1⟩
              obtain ⟨io, icap, ig, hv5, hLi, hino, -⟩ := lies_of_owned hown
              have hB5 : w5.heap[xb]? = some (.cells #[.int .i64 x.what, .int .i64 x.n, .string x.name, .string x.tgt, .slice x.bo x.b.length x.bcap, .slice x.ko x.keep.length x.kcap] 32) := (t5.block xb (HTa.out.lt xb rfl) id).trans HXB.out
              have HXB5 : Hid (w5.heap[xb]? = some (.cells #[.int .i64 x.what, .int .i64 x.n, .string x.name, .string x.tgt, .slice x.bo x.b.length x.bcap, .slice x.ko x.keep.length x.kcap] 32)) := hB5
              have b2 : w5.cell? ⟨xb, 2, none⟩ = some (.string x.name) := by rw [cell_of_block hB5]; rfl
              have b4 : w5.cell? ⟨xb, 4, none⟩ = some (.slice x.bo x.b.length x.bcap) := by rw [cell_of_block hB5]; rfl
              have HOwn : Hid (∀ W F' G' sa sb, Trio wb w5 (fun k => k = xb ∨ v5.ownBlock = some k) W d r F' G' sa sb → W.ownsRow wa.heap.size 5 1 v5 x.b.length (cellsOf x.b)) := by
                intro W F' G' sa sb hT
                refine ⟨hown.1, ?_⟩
                rcases hown.2 with h | ⟨g, cap, cur, e, hb, hg, q⟩
                · exact .inl h
                · exact .inr ⟨g, cap, cur, e, hb, (hT.same g (.inr (by rw [e]; rfl))).trans hg, q⟩
              have HBase : Hid (wb.heap.size ≤ wa.heap.size) := HTa.out.duo.live.since.size
              have HC1 : Hid (Calls Try.prog 9 #[dp d, .string x.name, .slice io x.b.length icap] w5.drew fun e w' => e = .returned (.int .i64 E) ∧ (w'.cell? ⟨xb, 2, none⟩ = some (.string x.name) ∧ w'.cell? ⟨xb, 4, none⟩ = some (.slice x.bo x.b.length x.bcap)) ∧ Hid (∃ F', Trio wb w5 (fun k => k = xb ∨ v5.ownBlock = some k) w' d r F' G s1 s)) := by
                have hT := HTb.out.touch ((Touch.refl _ w5).drew)
                rw [hE, hs1]
                refine (lAppend hT.duo.live hsl x.name hzn ig io x.b x.b.length icap rfl hino (hLi.keep fun e => rfl) HX.out.blen).mono ?_
                rintro e w' ⟨he, hq⟩
                obtain ⟨F', hT'⟩ := hT.fst hq
                exact ⟨he, ⟨by rw [cell_of_block ((hT'.same xb (.inl rfl)).trans HXB5.out)]; rfl, by rw [cell_of_block ((hT'.same xb (.inl rfl)).trans HXB5.out)]; rfl⟩, F', hT'⟩
              have HC2 : Hid (∀ W, (∃ F', Trio wb w5 (fun k => k = xb ∨ v5.ownBlock = some k) W d r F' G s1 s) → Calls Try.prog 10 #[rp r, .string x.name, .slice x.bo x.b.length x.bcap] W fun e w' => e = .returned (.int .i64 E) ∧ (w'.cell? ⟨xb, 2, none⟩ = some (.string x.name) ∧ w'.cell? ⟨xb, 4, none⟩ = some (.slice x.bo x.b.length x.bcap)) ∧ Hid (∃ F' G', Trio wb w5 (fun k => k = xb ∨ v5.ownBlock = some k) w' d r F' G' s1 s1)) := by
                rintro W ⟨F', hT⟩
                have hr0 := HTa.out.duo.live.rising
                rw [hE, hs1]
                refine (rappend_any hT.duo.ref hr0 hsl x.name hzn x.bg x.bo x.b x.b.length x.bcap rfl HX.out.bno (HX.out.bl.keep fun e => hT.duo.live.since.block x.bg (HX.out.bl.lt e) id) HX.out.blen).mono ?_
                rintro e w' ⟨he, hq⟩
                rw [hs1] at hT
                obtain ⟨G', hT'⟩ := hT.snd hq
                exact ⟨he, ⟨by rw [cell_of_block ((hT'.same xb (.inl rfl)).trans HXB5.out)]; rfl, by rw [cell_of_block ((hT'.same xb (.inl rfl)).trans HXB5.out)]; rfl⟩, F', G', hT'⟩
              have HSp : Hid (∀ W, (∃ F' G', Trio wb w5 (fun k => k = xb ∨ v5.ownBlock = some k) W d r F' G' s1 s1) → Calls Try.prog 11 #[.slice io x.b.length icap] W fun e w' => e = .returned (.tuple #[]) ∧ Hid (∃ F' G', Pair wb w' d r F' G' s1)) := by
                rintro W ⟨F', G', hT⟩
                have ho := HOwn.out W F' G' s1 s1 hT
                rw [hv5] at ho
                have hxl := HX.out.blen
                refine (spoil_owned wa.heap.size _ x.b W (by omega) ho).mono ?_
                rintro e w' ⟨rfl, t⟩
                exact ⟨rfl, F', G', hT.spoil t (fun k hk => .inr (by rw [hv5]; exact hk.2)) (fun k hk => Nat.le_trans HBase.out hk.1)⟩
              rw [hv5]
              have HS0 : w5.drew.cell? ⟨xb, 2, none⟩ = some (.string x.name) ∧ w5.drew.cell? ⟨xb, 4, none⟩ = some (.slice x.bo x.b.length x.bcap) := ⟨b2, b4⟩
              clear hE hs1 HTa HXB HX HCp hown t5 HTb hLi hino hB5 HXB5 HOwn HBase hv5
              go_wp2_with fail
              go_region_held3 (fun W => W.cell? ⟨xb, 2, none⟩ = some (.string x.name) ∧ W.cell? ⟨xb, 4, none⟩ = some (.slice x.bo x.b.length x.bcap)) (first | assumption | exact HS0)
                (first
                  | (go_at_call 9; (with_reducible refine HC1.out.mono ?_); rintro e w2 ⟨rfl, hS2, hq⟩; have HM : Hid (∃ F', Trio wb w5 (fun k => k = xb ∨ v5.ownBlock = some k) w2 d r F' G s1 s) := hq; clear hq)
                  | (go_at_call 10; (with_reducible refine (HC2.out _ HM.out).mono ?_); rintro e w3 ⟨rfl, hS2, hq⟩; have HM3 : Hid (∃ F' G', Trio wb w5 (fun k => k = xb ∨ v5.ownBlock = some k) w3 d r F' G' s1 s1) := hq; clear hq))
              clear HC1 HC2 HM hS2 HS0 b2 b4
              go_wp2_with fail
              refine (HSp.out _ HM3.out).mono ?_
              rintro e w7 ⟨rfl, hq⟩
              obtain ⟨F9, G9, hT9⟩ := hq.out
              have HZ : Hid (Pair wb w7 d r F9 G9 s1 ∧ s1.fs.length ≤ k + 1) := ⟨hT9, hs1l⟩
              clear hq hT9 HSp HM3
              go_wp2_with fail
              go_meet
              case rel => exact ⟨d, r, _, F9, G9, _, rfl, rfl, rfl, rfl, HZ⟩
          have hw3 : (x.what == 3) = false := by simpa using hw
          clear hw
          by_cases hw : x.what = 4
          · as_aux_lemma =>
              have hwb : (x.what == 4) = true := by simpa using hw
              clear hw
              obtain ⟨E, hE⟩ : ∃ E, E = s.err x.name.data.toList := ⟨_, rfl⟩
              obtain ⟨s1, hs1⟩ : ∃ s1, s1 = mSync s x.name.data.toList := ⟨_, rfl⟩
              have hs1l : s1.fs.length ≤ k + 1 := by rw [hs1]; have := mSync_len s x.name.data.toList; omega
              have HC1 : Hid (Calls Try.prog 12 #[dp d, .string x.name] wa.drew fun e w' => e = .returned (.int .i64 E) ∧ (w'.cell? ⟨xb, 2, none⟩ = some (.string x.name)) ∧ Hid (∃ F', Trio wb wa (OneB xb) w' d r F' G s1 s)) := by
                have hT := HTa.out.touch ((Touch.refl _ wa).drew)
                rw [hE, hs1]
                refine (lSync hT.duo.live hsl x.name hzn).mono ?_
                rintro e w' ⟨he, hq⟩
                obtain ⟨F', hT'⟩ := hT.fst hq
                exact ⟨he, by rw [cell_of_block ((hT'.same xb rfl).trans HXB.out)]; rfl, F', hT'⟩
              have HC2 : Hid (∀ W, (∃ F', Trio wb wa (OneB xb) W d r F' G s1 s) → Calls Try.prog 13 #[rp r, .string x.name] W fun e w' => e = .returned (.int .i64 E) ∧ (w'.cell? ⟨xb, 2, none⟩ = some (.string x.name)) ∧ Hid (∃ F' G', Trio wb wa (OneB xb) w' d r F' G' s1 s1)) := by
                rintro W ⟨F', hT⟩
                have hr0 := HTa.out.duo.live.rising
                rw [hE, hs1]
                refine (rsync_any hT.duo.ref hr0 hsl x.name hzn).mono ?_
                rintro e w' ⟨he, hq⟩
                rw [hs1] at hT
                obtain ⟨G', hT'⟩ := hT.snd hq
                exact ⟨he, by rw [cell_of_block ((hT'.same xb rfl).trans HXB.out)]; rfl, F', G', hT'⟩
              have HS0 : wa.drew.cell? ⟨xb, 2, none⟩ = some (.string x.name) := a2
              clear hE hs1 HTa HXB HX
              go_upto_region 20 with fail
              go_wp2_with fail
              go_region_held3 (fun W => W.cell? ⟨xb, 2, none⟩ = some (.string x.name)) (first | assumption | exact HS0)
                (first
                  | (go_at_call 12; (with_reducible refine HC1.out.mono ?_); rintro e w2 ⟨rfl, hS2, hq⟩; have HM : Hid (∃ F', Trio wb wa (OneB xb) w2 d r F' G s1 s) := hq; clear hq)
                  | (go_at_call 13; (with_reducible refine (HC2.out _ HM.out).mono ?_); rintro e w3 ⟨rfl, hS2, hq⟩; have HM3 : Hid (∃ F' G', Trio wb wa (OneB xb) w3 d r F' G' s1 s1) := hq; clear hq))
              clear HC1 HC2 HM hS2 HS0
              go_wp2_with fail
              obtain ⟨F9, G9, hT9⟩ := HM3.out
              have HZ : Hid (Pair wb _ d r F9 G9 s1 ∧ s1.fs.length ≤ k + 1) := ⟨hT9.duo, hs1l⟩
              go_meet
              case rel => exact ⟨d, r, _, F9, G9, _, rfl, rfl, rfl, rfl, HZ⟩
          have hw4 : (x.what == 4) = false := by simpa using hw
          clear hw
          by_cases hw : x.what = 5
          · as_aux_lemma =>
              have hwb : (x.what == 5) = true := by simpa using hw
              clear hw
              obtain ⟨E, hE⟩ : ∃ E, E = renE s x.name.data.toList x.tgt.data.toList := ⟨_, rfl⟩
              obtain ⟨s1, hs1⟩ : ∃ s1, s1 = mRename s x.name.data.toList x.tgt.data.toList := ⟨_, rfl⟩
              have hs1l : s1.fs.length ≤ k + 1 := by rw [hs1]; have := mRename_len s x.name.data.toList x.tgt.data.toList; omega
              have HC1 : Hid (Calls Try.prog 14 #[dp d, .string x.name, .string x.tgt] wa.drew fun e w' => e = .returned (.int .i64 E) ∧ (w'.cell? ⟨xb, 2, none⟩ = some (.string x.name) ∧ w'.cell? ⟨xb, 3, none⟩ = some (.string x.tgt)) ∧ Hid (∃ F', Trio wb wa (OneB xb) w' d r F' G s1 s)) := by
                have hT := HTa.out.touch ((Touch.refl _ wa).drew)
                rw [hE, hs1]
                refine (lRename hT.duo.live hsl x.name hzn x.tgt hzt).mono ?_
                rintro e w' ⟨he, hq⟩
                obtain ⟨F', hT'⟩ := hT.fst hq
                exact ⟨he, ⟨by rw [cell_of_block ((hT'.same xb rfl).trans HXB.out)]; rfl, by rw [cell_of_block ((hT'.same xb rfl).trans HXB.out)]; rfl⟩, F', hT'⟩
              have HC2 : Hid (∀ W, (∃ F', Trio wb wa (OneB xb) W d r F' G s1 s) → Calls Try.prog 15 #[rp r, .string x.name, .string x.tgt] W fun e w' => e = .returned (.int .i64 E) ∧ (w'.cell? ⟨xb, 2, none⟩ = some (.string x.name) ∧ w'.cell? ⟨xb, 3, none⟩ = some (.string x.tgt)) ∧ Hid (∃ F' G', Trio wb wa (OneB xb) w' d r F' G' s1 s1)) := by
                rintro W ⟨F', hT⟩
                have hr0 := HTa.out.duo.live.rising
                rw [hE, hs1]
                refine (rrename_any hT.duo.ref hr0 hsl x.name hzn x.tgt hzt).mono ?_
                rintro e w' ⟨he, hq⟩
                rw [hs1] at hT
                obtain ⟨G', hT'⟩ := hT.snd hq
                exact ⟨he, ⟨by rw [cell_of_block ((hT'.same xb rfl).trans HXB.out)]; rfl, by rw [cell_of_block ((hT'.same xb rfl).trans HXB.out)]; rfl⟩, F', G', hT'⟩
              have HS0 : wa.drew.cell? ⟨xb, 2, none⟩ = some (.string x.name) ∧ wa.drew.cell? ⟨xb, 3, none⟩ = some (.string x.tgt) := ⟨a2, a3⟩
              clear hE hs1 HTa HXB HX
              go_upto_region 22 with fail
              go_wp2_with fail
              go_region_held3 (fun W => W.cell? ⟨xb, 2, none⟩ = some (.string x.name) ∧ W.cell? ⟨xb, 3, none⟩ = some (.string x.tgt)) (first | assumption | exact HS0)
                (first
                  | (go_at_call 14; (with_reducible refine HC1.out.mono ?_); rintro e w2 ⟨rfl, hS2, hq⟩; have HM : Hid (∃ F', Trio wb wa (OneB xb) w2 d r F' G s1 s) := hq; clear hq)
                  | (go_at_call 15; (with_reducible refine (HC2.out _ HM.out).mono ?_); rintro e w3 ⟨rfl, hS2, hq⟩; have HM3 : Hid (∃ F' G', Trio wb wa (OneB xb) w3 d r F' G' s1 s1) := hq; clear hq))
              clear HC1 HC2 HM hS2 HS0
              go_wp2_with fail
              obtain ⟨F9, G9, hT9⟩ := HM3.out
              have HZ : Hid (Pair wb _ d r F9 G9 s1 ∧ s1.fs.length ≤ k + 1) := ⟨hT9.duo, hs1l⟩
              go_meet
              case rel => exact ⟨d, r, _, F9, G9, _, rfl, rfl, rfl, rfl, HZ⟩
          have hw5 : (x.what == 5) = false := by simpa using hw
          clear hw
          by_cases hw : x.what = 6
          · as_aux_lemma =>
              have hwb : (x.what == 6) = true := by simpa using hw
              clear hw
              obtain ⟨E, hE⟩ : ∃ E, E = s.err x.name.data.toList := ⟨_, rfl⟩
              obtain ⟨s1, hs1⟩ : ∃ s1, s1 = mTrunc s x.name.data.toList x.n := ⟨_, rfl⟩
              have hs1l : s1.fs.length ≤ k + 1 := by rw [hs1]; have := mTrunc_len s x.name.data.toList x.n; omega
              have HC1 : Hid (Calls Try.prog 16 #[dp d, .string x.name, .int .i64 x.n] wa.drew fun e w' => e = .returned (.int .i64 E) ∧ (w'.cell? ⟨xb, 2, none⟩ = some (.string x.name) ∧ w'.cell? ⟨xb, 1, none⟩ = some (.int .i64 x.n)) ∧ Hid (∃ F', Trio wb wa (OneB xb) w' d r F' G s1 s)) := by
                have hT := HTa.out.touch ((Touch.refl _ wa).drew)
                rw [hE, hs1]
                refine (lTrunc hT.duo.live hsl x.name hzn x.n HX.out.n).mono ?_
                rintro e w' ⟨he, hq⟩
                obtain ⟨F', hT'⟩ := hT.fst hq
                exact ⟨he, ⟨by rw [cell_of_block ((hT'.same xb rfl).trans HXB.out)]; rfl, by rw [cell_of_block ((hT'.same xb rfl).trans HXB.out)]; rfl⟩, F', hT'⟩
              have HC2 : Hid (∀ W, (∃ F', Trio wb wa (OneB xb) W d r F' G s1 s) → Calls Try.prog 17 #[rp r, .string x.name, .int .i64 x.n] W fun e w' => e = .returned (.int .i64 E) ∧ (w'.cell? ⟨xb, 2, none⟩ = some (.string x.name) ∧ w'.cell? ⟨xb, 1, none⟩ = some (.int .i64 x.n)) ∧ Hid (∃ F' G', Trio wb wa (OneB xb) w' d r F' G' s1 s1)) := by
                rintro W ⟨F', hT⟩
                have hr0 := HTa.out.duo.live.rising
                rw [hE, hs1]
                refine (rtrunc_any hT.duo.ref hr0 hsl x.name hzn x.n HX.out.n).mono ?_
                rintro e w' ⟨he, hq⟩
                rw [hs1] at hT
                obtain ⟨G', hT'⟩ := hT.snd hq
                exact ⟨he, ⟨by rw [cell_of_block ((hT'.same xb rfl).trans HXB.out)]; rfl, by rw [cell_of_block ((hT'.same xb rfl).trans HXB.out)]; rfl⟩, F', G', hT'⟩
              have HS0 : wa.drew.cell? ⟨xb, 2, none⟩ = some (.string x.name) ∧ wa.drew.cell? ⟨xb, 1, none⟩ = some (.int .i64 x.n) := ⟨a2, a1⟩
              clear hE hs1 HTa HXB HX
              go_upto_region 24 with fail
              go_wp2_with fail
              go_region_held3 (fun W => W.cell? ⟨xb, 2, none⟩ = some (.string x.name) ∧ W.cell? ⟨xb, 1, none⟩ = some (.int .i64 x.n)) (first | assumption | exact HS0)
                (first
                  | (go_at_call 16; (with_reducible refine HC1.out.mono ?_); rintro e w2 ⟨rfl, hS2, hq⟩; have HM : Hid (∃ F', Trio wb wa (OneB xb) w2 d r F' G s1 s) := hq; clear hq)
                  | (go_at_call 17; (with_reducible refine (HC2.out _ HM.out).mono ?_); rintro e w3 ⟨rfl, hS2, hq⟩; have HM3 : Hid (∃ F' G', Trio wb wa (OneB xb) w3 d r F' G' s1 s1) := hq; clear hq))
              clear HC1 HC2 HM hS2 HS0
              go_wp2_with fail
              obtain ⟨F9, G9, hT9⟩ := HM3.out
              have HZ : Hid (Pair wb _ d r F9 G9 s1 ∧ s1.fs.length ≤ k + 1) := ⟨hT9.duo, hs1l⟩
              go_meet
              case rel => exact ⟨d, r, _, F9, G9, _, rfl, rfl, rfl, rfl, HZ⟩
          have hw6 : (x.what == 6) = false := by simpa using hw
          clear hw
          by_cases hw : x.what = 7
          · as_aux_lemma =>
              have hwb : (x.what == 7) = true := by simpa using hw
              clear hw
              obtain ⟨E, hE⟩ : ∃ E, E = s.err x.name.data.toList := ⟨_, rfl⟩
              obtain ⟨s1, hs1⟩ : ∃ s1, s1 = mDelete s x.name.data.toList := ⟨_, rfl⟩
              have hs1l : s1.fs.length ≤ k + 1 := by rw [hs1]; have := mDelete_len s x.name.data.toList; omega
              have HC1 : Hid (Calls Try.prog 18 #[dp d, .string x.name] wa.drew fun e w' => e = .returned (.int .i64 E) ∧ (w'.cell? ⟨xb, 2, none⟩ = some (.string x.name)) ∧ Hid (∃ F', Trio wb wa (OneB xb) w' d r F' G s1 s)) := by
                have hT := HTa.out.touch ((Touch.refl _ wa).drew)
                rw [hE, hs1]
                refine (lDel hT.duo.live hsl x.name hzn).mono ?_
                rintro e w' ⟨he, hq⟩
                obtain ⟨F', hT'⟩ := hT.fst hq
                exact ⟨he, by rw [cell_of_block ((hT'.same xb rfl).trans HXB.out)]; rfl, F', hT'⟩
              have HC2 : Hid (∀ W, (∃ F', Trio wb wa (OneB xb) W d r F' G s1 s) → Calls Try.prog 19 #[rp r, .string x.name] W fun e w' => e = .returned (.int .i64 E) ∧ (w'.cell? ⟨xb, 2, none⟩ = some (.string x.name)) ∧ Hid (∃ F' G', Trio wb wa (OneB xb) w' d r F' G' s1 s1)) := by
                rintro W ⟨F', hT⟩
                have hr0 := HTa.out.duo.live.rising
                rw [hE, hs1]
                refine (rdelete_any hT.duo.ref hr0 hsl x.name hzn).mono ?_
                rintro e w' ⟨he, hq⟩
                rw [hs1] at hT
                obtain ⟨G', hT'⟩ := hT.snd hq
                exact ⟨he, by rw [cell_of_block ((hT'.same xb rfl).trans HXB.out)]; rfl, F', G', hT'⟩
              have HS0 : wa.drew.cell? ⟨xb, 2, none⟩ = some (.string x.name) := a2
              clear hE hs1 HTa HXB HX
              go_upto_region 26 with fail
              go_wp2_with fail
              go_region_held3 (fun W => W.cell? ⟨xb, 2, none⟩ = some (.string x.name)) (first | assumption | exact HS0)
                (first
                  | (go_at_call 18; (with_reducible refine HC1.out.mono ?_); rintro e w2 ⟨rfl, hS2, hq⟩; have HM : Hid (∃ F', Trio wb wa (OneB xb) w2 d r F' G s1 s) := hq; clear hq)
                  | (go_at_call 19; (with_reducible refine (HC2.out _ HM.out).mono ?_); rintro e w3 ⟨rfl, hS2, hq⟩; have HM3 : Hid (∃ F' G', Trio wb wa (OneB xb) w3 d r F' G' s1 s1) := hq; clear hq))
              clear HC1 HC2 HM hS2 HS0
              go_wp2_with fail
              obtain ⟨F9, G9, hT9⟩ := HM3.out
              have HZ : Hid (Pair wb _ d r F9 G9 s1 ∧ s1.fs.length ≤ k + 1) := ⟨hT9.duo, hs1l⟩
              go_meet
              case rel => exact ⟨d, r, _, F9, G9, _, rfl, rfl, rfl, rfl, HZ⟩
          have hw7 : (x.what == 7) = false := by simpa using hw
          clear hw
          by_cases hw : x.what = 8
          · as_aux_lemma =>
              have hwb : (x.what == 8) = true := by simpa using hw
              clear hw
              have HRd : Hid (Calls Try.prog 20 #[dp d, .string x.name] wa fun e w' => (∃ ao cap, e = .returned (.tuple #[.slice ao (mRead s x.name.data.toList).length cap, .int .i64 (s.err x.name.data.toList)]) ∧ w'.ownsRow wa.heap.size 5 1 (.slice ao (mRead s x.name.data.toList).length cap) (mRead s x.name.data.toList).length (cellsOf (mRead s x.name.data.toList))) ∧ Touch (fun _ => False) wa w') := lRead3 HTa.out.duo.live hsl x.name hzn
              have HRr : Hid (∀ W, Touch (fun _ => False) wa W → Calls Try.prog 21 #[rp r, .string x.name] W fun e w' => ∃ bo cap g, e = .returned (.tuple #[.slice bo (mRead s x.name.data.toList).length cap, .int .i64 (s.err x.name.data.toList)]) ∧ Lies w' g bo (mRead s x.name.data.toList) ∧ Touch (fun _ => False) W w') := fun W t => rRead_any (HTa.out.touch t).duo.ref HTa.out.duo.live.rising hsl x.name hzn
              have HEnd : Hid (∀ W, Touch (fun _ => False) wa W → Pair wb W d r F G s ∧ s.fs.length ≤ k + 1) := fun W t => ⟨(HTa.out.touch t).duo, by omega⟩
              have HC2 : Hid (∀ W, Touch (fun _ => False) wa W → W.cell? ⟨xb, 2, none⟩ = some (.string x.name)) := fun W t => by rw [cell_of_block ((t.block xb (HTa.out.lt xb rfl) id).trans HXB.out)]; rfl
              generalize mRead s x.name.data.toList = bs at *
              generalize s.err x.name.data.toList = E at *
              clear HTa HXB HX
              go_wp2_with fail
              refine HRd.out.mono ?_
              rintro e w5 ⟨⟨io, icap, rfl, hown⟩, t5⟩
              obtain ⟨_, _, ig, he5, hLi, -⟩ := lies_of_owned hown
              cases he5
              have b2 := HC2.out w5 t5
              have H5 : Hid (Lies w5 ig io bs ∧ Touch (fun _ => False) wa w5) := ⟨hLi, t5⟩
              clear hown t5 hLi HRd
              go_wp2_with fail
              refine (HRr.out w5 H5.out.2).mono ?_
              rintro e w6 ⟨bo, bcap, bg, rfl, hLb, t6⟩
              have H6 : Hid (Lies w6 ig io bs ∧ Lies w6 bg bo bs ∧ Touch (fun _ => False) wa w6) := ⟨H5.out.1.keep fun e => t6.block _ (H5.out.1.lt e) id, hLb, H5.out.2.trans t6⟩
              clear hLb t6 H5 HRr b2
              have hbb : (bs == bs) = true := by simp
              go_wp2_with fail
              refine (help_bytes ig bg io bo bs bs _ _ icap bcap rfl rfl w6 H6.out.1 H6.out.2.1).mono ?_
              rintro e w7 ⟨rfl, hw7⟩
              rw [hw7]
              clear hw7
              have HZ : Hid (Pair wb w6 d r F G s ∧ s.fs.length ≤ k + 1) := HEnd.out w6 H6.out.2.2
              clear H6 HEnd HC2
              go_wp2_with fail
              go_meet
              case rel => exact ⟨d, r, _, F, G, _, rfl, rfl, rfl, rfl, HZ⟩
          have hw8 : (x.what == 8) = false := by simpa using hw
          clear hw
          by_cases hw : x.what = 9
          · as_aux_lemma =>
              have hwb : (x.what == 9) = true := by simpa using hw
              clear hw
              obtain ⟨s1, hs1⟩ : ∃ s1, s1 = mRoom s x.n := ⟨_, rfl⟩
              have hs1l : s1.fs.length ≤ k + 1 := by rw [hs1]; have := mRoom_len s x.n; omega
              have HC1 : Hid (Calls Try.prog 23 #[dp d, .int .i64 x.n] wa fun e w' => e = .returned (.tuple #[]) ∧ Hid (∃ F', Trio wb wa (OneB xb) w' d r F' G s1 s)) := by
                have hT := HTa.out
                rw [hs1]
                refine (lRoom hT.duo.live x.n HX.out.n).mono ?_
                rintro e w' ⟨he, hq⟩
                obtain ⟨F', hT'⟩ := hT.fst hq
                exact ⟨he, F', hT'⟩
              have HC2 : Hid (∀ W, (∃ F', Trio wb wa (OneB xb) W d r F' G s1 s) → Calls Try.prog 24 #[rp r, .int .i64 x.n] W fun e w' => e = .returned (.tuple #[]) ∧ Hid (∃ F' G', Trio wb wa (OneB xb) w' d r F' G' s1 s1)) := by
                rintro W ⟨F', hT⟩
                have hr0 := HTa.out.duo.live.rising
                rw [hs1]
                refine (hT.duo.ref.room x.n HX.out.n).mono ?_
                rintro e w' ⟨he, hq⟩
                rw [hs1] at hT
                obtain ⟨G', hT'⟩ := hT.snd hq
                exact ⟨he, F', G', hT'⟩
              have HCs : Hid (∀ W F', Trio wb wa (OneB xb) W d r F' G s1 s → W.heap[xb]? = some (.cells #[.int .i64 x.what, .int .i64 x.n, .string x.name, .string x.tgt, .slice x.bo x.b.length x.bcap, .slice x.ko x.keep.length x.kcap] 32)) := fun W F' hT => (hT.same xb rfl).trans HXB.out
              clear hs1 HTa HXB HX
              go_wp2_with fail
              refine HC1.out.mono ?_
              rintro e w2 ⟨rfl, hq⟩
              have HM : Hid (∃ F', Trio wb wa (OneB xb) w2 d r F' G s1 s) := hq.out
              obtain ⟨F2, hT2⟩ := hq.out
              have hB2 := HCs.out w2 F2 hT2
              have b1 : w2.cell? ⟨xb, 1, none⟩ = some (.int .i64 x.n) := by rw [cell_of_block hB2]; rfl
              have b5 : w2.cell? ⟨xb, 5, none⟩ = some (.slice x.ko x.keep.length x.kcap) := by rw [cell_of_block hB2]; rfl
              clear hq hT2 hB2 HC1 HCs
              go_wp2_with fail
              refine (HC2.out _ HM.out).mono ?_
              rintro e w3 ⟨rfl, hq⟩
              obtain ⟨F9, G9, hT9⟩ := hq.out
              have HZ : Hid (Pair wb w3 d r F9 G9 s1 ∧ s1.fs.length ≤ k + 1) := ⟨hT9.duo, hs1l⟩
              clear hq hT9 HC2 HM b1 b5
              go_wp2_with fail
              go_meet
              case rel => exact ⟨d, r, _, F9, G9, _, rfl, rfl, rfl, rfl, HZ⟩
          have hw9 : (x.what == 9) = false := by simpa using hw
          clear hw
          by_cases hw : x.what = 10
          · as_aux_lemma =>
              have hwb : (x.what == 10) = true := by simpa using hw
              clear hw
              obtain ⟨s1, hs1⟩ : ∃ s1, s1 = mCut s x.n := ⟨_, rfl⟩
              have hs1l : s1.fs.length ≤ k + 1 := by rw [hs1]; have := mCut_len s x.n; omega
              have HC1 : Hid (Calls Try.prog 25 #[dp d, .int .i64 x.n] wa fun e w' => e = .returned (.tuple #[]) ∧ Hid (∃ F', Trio wb wa (OneB xb) w' d r F' G s1 s)) := by
                have hT := HTa.out
                rw [hs1]
                refine (lCut hT.duo.live x.n HX.out.n).mono ?_
                rintro e w' ⟨he, hq⟩
                obtain ⟨F', hT'⟩ := hT.fst hq
                exact ⟨he, F', hT'⟩
              have HC2 : Hid (∀ W, (∃ F', Trio wb wa (OneB xb) W d r F' G s1 s) → Calls Try.prog 26 #[rp r, .int .i64 x.n] W fun e w' => e = .returned (.tuple #[]) ∧ Hid (∃ F' G', Trio wb wa (OneB xb) w' d r F' G' s1 s1)) := by
                rintro W ⟨F', hT⟩
                have hr0 := HTa.out.duo.live.rising
                rw [hs1]
                refine (hT.duo.ref.cut x.n HX.out.n).mono ?_
                rintro e w' ⟨he, hq⟩
                rw [hs1] at hT
                obtain ⟨G', hT'⟩ := hT.snd hq
                exact ⟨he, F', G', hT'⟩
              have HCs : Hid (∀ W F', Trio wb wa (OneB xb) W d r F' G s1 s → W.heap[xb]? = some (.cells #[.int .i64 x.what, .int .i64 x.n, .string x.name, .string x.tgt, .slice x.bo x.b.length x.bcap, .slice x.ko x.keep.length x.kcap] 32)) := fun W F' hT => (hT.same xb rfl).trans HXB.out
              clear hs1 HTa HXB HX
              go_wp2_with fail
              refine HC1.out.mono ?_
              rintro e w2 ⟨rfl, hq⟩
              have HM : Hid (∃ F', Trio wb wa (OneB xb) w2 d r F' G s1 s) := hq.out
              obtain ⟨F2, hT2⟩ := hq.out
              have hB2 := HCs.out w2 F2 hT2
              have b1 : w2.cell? ⟨xb, 1, none⟩ = some (.int .i64 x.n) := by rw [cell_of_block hB2]; rfl
              have b5 : w2.cell? ⟨xb, 5, none⟩ = some (.slice x.ko x.keep.length x.kcap) := by rw [cell_of_block hB2]; rfl
              clear hq hT2 hB2 HC1 HCs
              go_wp2_with fail
              refine (HC2.out _ HM.out).mono ?_
              rintro e w3 ⟨rfl, hq⟩
              obtain ⟨F9, G9, hT9⟩ := hq.out
              have HZ : Hid (Pair wb w3 d r F9 G9 s1 ∧ s1.fs.length ≤ k + 1) := ⟨hT9.duo, hs1l⟩
              clear hq hT9 HC2 HM b1 b5
              go_wp2_with fail
              go_meet
              case rel => exact ⟨d, r, _, F9, G9, _, rfl, rfl, rfl, rfl, HZ⟩
          have hw10 : (x.what == 10) = false := by simpa using hw
          clear hw
          by_cases hw : x.what = 11
          · as_aux_lemma =>
              have hwb : (x.what == 11) = true := by simpa using hw
              clear hw
              obtain ⟨s1, hs1⟩ : ∃ s1, s1 = mCrash s x.keep := ⟨_, rfl⟩
              have hs1l : s1.fs.length ≤ k + 1 := by rw [hs1]; have := mCrash_len s x.keep; omega
              have HC1 : Hid (Calls Try.prog 27 #[dp d, .slice x.ko x.keep.length x.kcap] wa fun e w' => e = .returned (.tuple #[]) ∧ Hid (∃ F', Trio wb wa (OneB xb) w' d r F' G s1 s)) := by
                have hT := HTa.out
                rw [hs1]
                refine (lCrash hT.duo.live hsl x.kg x.ko x.keep x.keep.length x.kcap rfl (HX.out.kl.keep fun e => hT.duo.live.since.block x.kg (HX.out.kl.lt e) id) HX.out.kin (fun e => (hT.duo.old (HX.out.kl.lt e)).1) (by have := HX.out.klen; omega)).mono ?_
                rintro e w' ⟨he, hq⟩
                obtain ⟨F', hT'⟩ := hT.fst hq
                exact ⟨he, F', hT'⟩
              have HC2 : Hid (∀ W, (∃ F', Trio wb wa (OneB xb) W d r F' G s1 s) → Calls Try.prog 28 #[rp r, .slice x.ko x.keep.length x.kcap] W fun e w' => e = .returned (.tuple #[]) ∧ Hid (∃ F' G', Trio wb wa (OneB xb) w' d r F' G' s1 s1)) := by
                rintro W ⟨F', hT⟩
                have hr0 := HTa.out.duo.live.rising
                rw [hs1]
                refine (rcrash_any hT.duo.ref hsl x.kg x.ko x.keep x.keep.length x.kcap rfl (HX.out.kl.keep fun e => hT.duo.live.since.block x.kg (HX.out.kl.lt e) id) HX.out.kin (by have := HX.out.klen; omega)).mono ?_
                rintro e w' ⟨he, hq⟩
                rw [hs1] at hT
                obtain ⟨G', hT'⟩ := hT.snd hq
                exact ⟨he, F', G', hT'⟩
              have HCs : Hid (∀ W F', Trio wb wa (OneB xb) W d r F' G s1 s → W.heap[xb]? = some (.cells #[.int .i64 x.what, .int .i64 x.n, .string x.name, .string x.tgt, .slice x.bo x.b.length x.bcap, .slice x.ko x.keep.length x.kcap] 32)) := fun W F' hT => (hT.same xb rfl).trans HXB.out
              clear hs1 HTa HXB HX
              go_wp2_with fail
              refine HC1.out.mono ?_
              rintro e w2 ⟨rfl, hq⟩
              have HM : Hid (∃ F', Trio wb wa (OneB xb) w2 d r F' G s1 s) := hq.out
              obtain ⟨F2, hT2⟩ := hq.out
              have hB2 := HCs.out w2 F2 hT2
              have b1 : w2.cell? ⟨xb, 1, none⟩ = some (.int .i64 x.n) := by rw [cell_of_block hB2]; rfl
              have b5 : w2.cell? ⟨xb, 5, none⟩ = some (.slice x.ko x.keep.length x.kcap) := by rw [cell_of_block hB2]; rfl
              clear hq hT2 hB2 HC1 HCs
              go_wp2_with fail
              refine (HC2.out _ HM.out).mono ?_
              rintro e w3 ⟨rfl, hq⟩
              obtain ⟨F9, G9, hT9⟩ := hq.out
              have HZ : Hid (Pair wb w3 d r F9 G9 s1 ∧ s1.fs.length ≤ k + 1) := ⟨hT9.duo, hs1l⟩
              clear hq hT9 HC2 HM b1 b5
              go_wp2_with fail
              go_meet
              case rel => exact ⟨d, r, _, F9, G9, _, rfl, rfl, rfl, rfl, HZ⟩
          have hw11 : (x.what == 11) = false := by simpa using hw
          clear hw
          by_cases hw : x.what = 12
          · as_aux_lemma =>
              have hwb : (x.what == 12) = true := by simpa using hw
              clear hw
              have HCp : Hid (Calls Try.prog 29 #[dp d] wa fun e w' => ∃ c C, e = .returned (dp c) ∧ Live wa w' c C s) := lCopy HTa.out.duo.live hsl
              have HAp : Hid (∀ W, Touch (fun _ => False) wa W → Lies W wa.heap.size none [] → True) := fun _ _ _ => trivial
              have HOt : Hid (∀ W ag, Touch (fun _ => False) wa W → Lies W ag (some ⟨ag, 0, none⟩) [1] → Calls Try.prog 9 #[dp d, .string ⟨#[111, 116, 104, 101, 114]⟩, .slice (some ⟨ag, 0, none⟩) 1 1] W fun e w' => (∃ E, e = .returned (.int .i64 E)) ∧ Touch F W w') := by
                intro W ag t hL
                refine (lAppend (HTa.out.touch t).duo.live hsl ⟨#[111, 116, 104, 101, 114]⟩ (by decide) ag _ [1] 1 1 rfl (fun h => by cases h) hL (by decide)).mono ?_
                rintro e w' ⟨he, F', _, hs⟩
                exact ⟨⟨_, he⟩, hs.touch⟩
              have HRc : Hid (∀ W, Touch F wa W → Calls Try.prog 30 #[rp r] W fun e w' => ∃ c H, e = .returned (rp c) ∧ RCopied W w' r c G H s) := fun W t => rCopy_any (HTa.out.duo.ref.keep t fun k hg hf => HTa.out.duo.apart k hf hg) hsl
              have HDuo : Hid (Pair wb wa d r F G s) := HTa.out.duo
              clear HTa HXB HX
              go_wp2_with fail
              refine HCp.out.mono ?_
              rintro e w5 ⟨c, C, rfl, hc⟩
              have H5 : Hid (Live wa w5 c C s) := hc
              have hL1 : Lies (w5.alloc (.cells #[.int .u8 1] 5)) w5.heap.size (some ⟨w5.heap.size, 0, none⟩) [1] := by
                refine .inr ⟨0, rfl, fun j hj => ?_⟩
                obtain rfl : j = 0 := by simpa using hj
                rw [cell_of_block (heap_alloc_new w5 _)]; rfl
              have HL1 : Hid (Lies (w5.alloc (.cells #[.int .u8 1] 5)) w5.heap.size (some ⟨w5.heap.size, 0, none⟩) [1]) := hL1
              clear hc HCp hL1
              go_wp2_with fail
              refine (HOt.out _ _ (H5.out.since.alloc _) HL1.out).mono ?_
              rintro e w6 ⟨⟨E6, rfl⟩, t6⟩
              have H6 : Hid (Touch F w5 w6) := (((Touch.refl F w5).alloc _)).trans t6
              clear t6 HOt HL1
              go_wp2_with fail
              refine (HRc.out _ ((H5.out.since.mono fun _ _ h => h.elim).trans H6.out)).mono ?_
              rintro e w7 ⟨c2, H, rfl, hR⟩
              have HZ : Hid (Pair wb w7 c c2 C H s ∧ s.fs.length ≤ k + 1) := ⟨HDuo.out.copied (F3 := F) H5.out H6.out hR, by omega⟩
              clear hR H5 H6 HRc HDuo HAp
              go_wp2_with fail
              go_meet
              case rel => exact ⟨c, c2, _, C, H, _, rfl, rfl, rfl, rfl, HZ⟩
          have hw12 : (x.what == 12) = false := by simpa using hw
          clear hw
          have HZ : Hid (Pair wb wa d r F G s ∧ s.fs.length ≤ k + 1) := ⟨HTa.out.duo, by omega⟩
          clear HTa HXB HX
          go_wp2_with fail
          go_meet
          case rel => exact ⟨d, r, _, F, G, _, rfl, rfl, rfl, rfl, HZ⟩
        case rest =>
         as_aux_lemma =>
          obtain ⟨dd, rr, E, F', G', s', rfl, rfl, rfl, rfl, HZ⟩ := hcut
          clear HTa HXB HX a0 a1 a2 a3 a4 a5
          have hEE : (E == E) = true := by simp
          have HAl : Hid (∀ W, Touch (fun _ => False) wc W → Calls Try.prog 31 #[dp dd, rp rr] W fun e w' => e = .returned (.bool true) ∧ Touch (fun _ => False) W w') := fun W t => alike_any (HZ.out.1.touch t) (by have := HZ.out.2; omega) HZ.out.1.ref.lens
          go_wp2_with fail
          refine (HAl.out _ (Touch.refl _ _)).mono ?_
          rintro e w8 ⟨rfl, t8⟩
          have HZ8 : Hid (Pair wb w8 dd rr F' G' s' ∧ s'.fs.length ≤ k + 1) := ⟨HZ.out.1.touch t8, HZ.out.2⟩
          clear t8 HAl HZ
          go_wp2_with fail
          go_roundw
          case rel => exact ⟨k + 1, dd, rr, F', G', s', rfl, rfl, by go_num, by omega, HZ8⟩
          case measure => simp [intOf]; omega
      · have HAl : Hid (Calls Try.prog 31 #[dp d, rp r] wr fun e w' => e = .returned (.bool true) ∧ Touch (fun _ => False) wr w') := alike_any HP.out.1 (by have := HP.out.2; omega) HP.out.1.ref.lens
        have HTr : Hid (Touch (fun _ => False) w wr) := HTb.out.trans HP.out.1.live.since
        clear HP HS HTb
        go_wp2_with fail
        refine HAl.out.mono ?_
        rintro e w8 ⟨rfl, t8⟩
        have HT8 : Hid (Touch (fun _ => False) w w8) := HTr.out.trans t8
        clear t8 HAl HTr
        go_wp2_with fail
        go_ret
        exact ⟨rfl, HT8.out⟩
end Go.Proofs.Ytfmpbkdmcgkeoaa
