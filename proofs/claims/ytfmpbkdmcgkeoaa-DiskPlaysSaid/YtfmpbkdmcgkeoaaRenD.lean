/- The contract of disk's Rename. -/
import Derived.Test.YtfmpbkdmcgkeoaaPosts
import Derived.Test.YtfmpbkdmcgkeoaaLay2
namespace Go.Proofs.Ytfmpbkdmcgkeoaa
open Go.RowKit Go.Maps
set_option linter.unusedVariables false

set_option maxRecDepth 100000 in
set_option maxHeartbeats 800000 in
theorem rename_any {w : World} {d : Nat} {F : Nat → Prop} {s : St} (hD : Disk w d F s) (hn : s.fs.length ≤ 1073741823) (k : ByteArray) (hk : k.size ≤ 281474976710656) (k2 : ByteArray) (hk2 : k2.size ≤ 281474976710656) :
    Calls Try.prog 14 #[.pointer (some ⟨d, 0, none⟩), .string k, .string k2] w fun e w' => e = .returned (.int .i64 (renE s k.data.toList k2.data.toList)) ∧ DPost d F (mRename s k.data.toList k2.data.toList) w w' := by
  obtain ⟨m, es, hC, hR, hfs, hF, hFl⟩ := id hD
  have hn2 : es.length ≤ 1073741823 := by rw [hfs, length_amap] at hn; exact hn
  have hkm : k.size ≤ maxLen := by unfold maxLen; omega
  have HF : Hid (Calls Try.prog 44 #[.pointer (some ⟨d, 0, none⟩), .string k] w fun e w' => e = .returned (.tuple #[(foundF s.power k.data.toList es).val, .int .i64 (foundE s.power k.data.toList es)]) ∧ Touch (fun _ => False) w w') := find_any hC k hkm
  have he : s.err k.data.toList = foundE s.power k.data.toList es := err_of hfs _
  have hat : s.at k.data.toList = (getF k.data.toList es).abs := at_of hfs _
  have HN : Hid (∀ W, Calls Try.prog 35 #[.string k2] W fun e w' => e = .returned (.bool (isNm k2.data.toList)) ∧ w' = W) := fun W => isName_any k2 W (by unfold maxLen; omega)
  by_cases e0 : foundE s.power k.data.toList es = 0
  · have hp : s.power ≠ 0 := by intro h; simp [foundE, h] at e0
    have hfF : foundF s.power k.data.toList es = getF k.data.toList es := by simp [foundF, hp]
    rw [hfF, e0] at HF
    have hG := hC.get k.data.toList
    cases hb : isNm k2.data.toList with
    | false =>
      have HQ : Hid (∀ w1 : World, Touch (fun _ => False) w w1 → ∀ o, DPost d F (mRename s k.data.toList k2.data.toList) w (w1.alloc o)) := by
        have hm : mRename s k.data.toList k2.data.toList = s := by
          unfold mRename renE
          rw [if_pos (he.trans e0), hb]; simp
        intro w1 t o
        rw [hm]
        exact DPost.same hD (t.alloc o)
      have hre : renE s k.data.toList k2.data.toList = 41 := by unfold renE; rw [if_pos (he.trans e0), hb]; simp
      rw [hre]
      rw [hb] at HN
      clear hat he hC hR hF hFl hD hfs e0 hre
      obtain ⟨⟨ao, cap, hv⟩, hs1, hs2⟩ := hG
      generalize getF k.data.toList es = f at *
      obtain ⟨v, bs, syn⟩ := f
      simp only at hv hs1 hs2
      subst hv
      simp only [Fl.val] at HF
      generalize mRename s k.data.toList k2.data.toList = S' at *
      go_enter Try.func14, Try.ntmps14
      go_wp2_with fail
      refine HF.out.mono ?_
      rintro e w1 ⟨rfl, hT⟩
      have HT : Hid (Touch (fun _ => False) w w1) := hT
      clear hT HF
      go_wp2_with fail
      refine (HN.out _).mono ?_
      rintro e w2 ⟨rfl, hw⟩
      rw [hw]; clear hw HN
      go_wp2_with fail
      go_ret
      exact ⟨rfl, HQ.out _ HT.out _⟩
    | true =>
      have HL : Hid (∀ W, Touch (fun _ => False) w W → Calls Try.prog 45 #[.pointer (some ⟨d, 0, none⟩), .string k] W (fun e w' => e = .returned (.tuple #[]) ∧ Core w' d m es.length (adel k.data.toList es) s.room s.power ∧ Touch (fun i => i = d ∨ i = m) W w')) := fun W t => drop_any (hC.touch t id id) k hkm (by omega)
      have HL2 : Hid (∀ W, Core W d m es.length (adel k.data.toList es) s.room s.power → Calls Try.prog 36 #[.pointer (some ⟨d, 0, none⟩), .string k2, (getF k.data.toList es).val] W (fun e w' => e = .returned (.tuple #[]) ∧ Core w' d m (es.length + 1) (aput k2.data.toList (getF k.data.toList es) (adel k.data.toList es)) s.room s.power ∧ Touch (fun i => i = d ∨ i = m) W w')) := fun W h => lay_any h k2 hk2 (by omega) _ hG
      have HS : Hid (∀ W, Core W d m (es.length + 1) (aput k2.data.toList (getF k.data.toList es) (adel k.data.toList es)) s.room s.power → Calls Try.prog 37 #[.pointer (some ⟨d, 0, none⟩)] W (fun e w' => e = .returned (.tuple #[]) ∧ Core w' d m (es.length + 1) (aput k2.data.toList (getF k.data.toList es) (adel k.data.toList es)) s.room (spent s.power) ∧ Touch (fun i => i = d) W w')) := fun W h => spend_any h
      have HQ : Hid (∀ w1 w2 w3 w4 : World, Touch (fun _ => False) w w1 → Core w4 d m (es.length + 1) (aput k2.data.toList (getF k.data.toList es) (adel k.data.toList es)) s.room (spent s.power) → Touch (fun i => i = d ∨ i = m) w1 w2 → Touch (fun i => i = d ∨ i = m) w2 w3 → Touch (fun i => i = d) w3 w4 → DPost d F (mRename s k.data.toList k2.data.toList) w w4) := by
        intro w1 w2 w3 w4 t1 h4 t2 t3 t4
        have hm : mRename s k.data.toList k2.data.toList = s.to (aput k2.data.toList (s.at k.data.toList) (adel k.data.toList s.fs)) := by
          unfold mRename renE
          rw [if_pos (he.trans e0), hb]; simp
        rw [hm]
        have tt : Touch (fun i => i = d ∨ i = m) w w4 := (((t1.mono fun _ _ h => h.elim).trans t2).trans t3).trans (t4.mono fun _ _ h => .inl h)
        refine laid_post (fo := getF k.data.toList es) hC hR hF (fun p hp => (mem_adel.1 (mem_adel.1 hp).1).1) (fun i hi => get_foot hi) (fun p hp => hR.get_apart _ p (mem_adel.1 hp).1) h4 (tt.mono ?_) ?_ (fun i _ hi => hi) ?_
        · rintro i _ (h | h)
          · exact .inl h
          · exact .inr (.inl h)
        · exact row_touch (hR.get _) tt fun i hi hx => by
            obtain ⟨n1, n2⟩ := hC.row_ne (hR.get _) hi
            exact hx.elim n1 n2
        · show aput k2.data.toList (s.at k.data.toList) (adel k.data.toList s.fs) = _
          rw [hat, hfs, amap_adel]
      have hre : renE s k.data.toList k2.data.toList = 0 := by unfold renE; rw [if_pos (he.trans e0), hb]; simp
      rw [hre]
      rw [hb] at HN
      have hdl := hC.lt
      have hml := hC.ltm
      generalize aput k2.data.toList (getF k.data.toList es) (adel k.data.toList es) = es2 at HL2 HS HQ
      generalize adel k.data.toList es = es1 at HL HL2
      clear hat he hC hR hF hFl hD hfs e0 hre
      obtain ⟨⟨ao, cap, hv⟩, hs1, hs2⟩ := hG
      generalize getF k.data.toList es = f at *
      obtain ⟨v, bs, syn⟩ := f
      simp only at hv hs1 hs2
      subst hv
      simp only [Fl.val] at HF HL2
      generalize mRename s k.data.toList k2.data.toList = S' at *
      go_enter Try.func14, Try.ntmps14
      go_wp2_with fail
      refine HF.out.mono ?_
      rintro e w1 ⟨rfl, hT⟩
      have HT : Hid (Touch (fun _ => False) w w1) := hT
      clear hT HF
      go_wp2_with fail
      refine (HN.out _).mono ?_
      rintro e w2 ⟨rfl, hw⟩
      rw [hw]; clear hw HN
      go_wp2_with fail
      refine (HL.out _ (HT.out.alloc _)).mono ?_
      rintro e w2 ⟨rfl, hC2, hT2⟩
      have hsz := HT.out.size
      have hB : (w1.alloc (.cells #[.slice ao bs.length cap, .int .i64 (syn : Int)] 66)).heap[w1.heap.size]? = some (.cells #[.slice ao bs.length cap, .int .i64 (syn : Int)] 66 (0, 0)) := heap_alloc_new _ _
      have hB2 := (hT2.block w1.heap.size (lt_of_heap hB) (by rintro (h | h) <;> omega)).trans hB
      have k0 : w2.cell? ⟨w1.heap.size, 0, none⟩ = some (.slice ao bs.length cap) := by rw [cell_of_block hB2]; rfl
      have k1 : w2.cell? ⟨w1.heap.size, 1, none⟩ = some (.int .i64 (syn : Int)) := by rw [cell_of_block hB2]; rfl
      have HT2 : Hid (Touch (fun i => i = d ∨ i = m) (w1.alloc _) w2) := hT2
      have H2 := HL2.out w2 hC2
      have HS2 : Hid (Calls Try.prog _ _ w2 _) := H2
      clear hT2 hC2 HL HL2 H2 hB hB2
      go_wp2_with fail
      refine HS2.out.mono ?_
      rintro e w3 ⟨rfl, hC3, hT3⟩
      have H3 := (HS.out w3 hC3)
      have HT3 : Hid (Touch (fun i => i = d ∨ i = m) w2 w3) := hT3
      have HS3 : Hid (Calls Try.prog _ _ w3 _) := H3
      clear hT3 hC3 HS2 H3
      go_wp2_with fail
      refine HS3.out.mono ?_
      rintro e w4 ⟨rfl, hC4, hT4⟩
      have HZ : Hid (DPost d F S' w w4) := HQ.out _ _ _ _ (HT.out.alloc _) hC4 HT2.out HT3.out hT4
      clear hC4 hT4 HS3 HQ
      go_wp2_with fail
      go_ret
      exact ⟨rfl, HZ.out⟩
  · have HQ : Hid (∀ w1 : World, Touch (fun _ => False) w w1 → ∀ o, DPost d F (mRename s k.data.toList k2.data.toList) w (w1.alloc o)) := by
      have hm : mRename s k.data.toList k2.data.toList = s := by
        have hz : ¬ s.err k.data.toList = 0 := by rw [he]; exact e0
        unfold mRename renE; rw [if_neg hz, if_neg hz]
      intro w1 t o
      rw [hm]
      exact DPost.same hD (t.alloc o)
    have hre : renE s k.data.toList k2.data.toList = foundE s.power k.data.toList es := by
      have hz : ¬ s.err k.data.toList = 0 := by rw [he]; exact e0
      unfold renE; rw [if_neg hz]; exact he
    rw [hre]
    clear hre HN
    have hG : Good (foundF s.power k.data.toList es) := by
      unfold foundF; split
      · exact zero_good
      · exact hC.get _
    obtain ⟨⟨ao, cap, hv⟩, hs1, hs2⟩ := hG
    clear hat he hC hR hF hFl hD hfs
    generalize foundF s.power k.data.toList es = f at *
    obtain ⟨v, bs, syn⟩ := f
    simp only at hv hs1 hs2
    subst hv
    simp only [Fl.val] at HF
    generalize foundE s.power k.data.toList es = E at *
    generalize mRename s k.data.toList k2.data.toList = S' at *
    go_enter Try.func14, Try.ntmps14
    go_wp2_with fail
    refine HF.out.mono ?_
    rintro e w1 ⟨rfl, hT⟩
    have HT : Hid (Touch (fun _ => False) w w1) := hT
    clear hT HF
    go_wp2_with fail
    go_ret
    exact ⟨rfl, HQ.out _ HT.out _⟩
end Go.Proofs.Ytfmpbkdmcgkeoaa
