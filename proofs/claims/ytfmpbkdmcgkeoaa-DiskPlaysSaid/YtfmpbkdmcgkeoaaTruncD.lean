/- The contract of disk's Truncate. -/
import Derived.Test.YtfmpbkdmcgkeoaaPosts
import Derived.Test.YtfmpbkdmcgkeoaaLay2
import Derived.Test.YtfmpbkdmcgkeoaaBClone
namespace Go.Proofs.Ytfmpbkdmcgkeoaa
open Go.RowKit Go.Maps
set_option linter.unusedVariables false

set_option maxRecDepth 100000 in
set_option maxHeartbeats 800000 in
theorem truncate_any {w : World} {d : Nat} {F : Nat → Prop} {s : St} (hD : Disk w d F s) (hn : s.fs.length ≤ 1073741823) (k : ByteArray) (hk : k.size ≤ 281474976710656) (n : Int) (hni : -9223372036854775808 ≤ n ∧ n ≤ 9223372036854775807) :
    Calls Try.prog 16 #[.pointer (some ⟨d, 0, none⟩), .string k, .int .i64 n] w fun e w' => e = .returned (.int .i64 (s.err k.data.toList)) ∧ DPost d F (mTrunc s k.data.toList n) w w' := by
  obtain ⟨m, es, hC, hR, hfs, hF, hFl⟩ := id hD
  have hn2 : es.length ≤ 1073741823 := by rw [hfs, length_amap] at hn; exact hn
  have hkm : k.size ≤ maxLen := by unfold maxLen; omega
  have HF : Hid (Calls Try.prog 44 #[.pointer (some ⟨d, 0, none⟩), .string k] w fun e w' => e = .returned (.tuple #[(foundF s.power k.data.toList es).val, .int .i64 (foundE s.power k.data.toList es)]) ∧ Touch (fun _ => False) w w') := find_any hC k hkm
  have he : s.err k.data.toList = foundE s.power k.data.toList es := err_of hfs _
  have hat : s.at k.data.toList = (getF k.data.toList es).abs := at_of hfs _
  by_cases e0 : foundE s.power k.data.toList es = 0
  · have hp : s.power ≠ 0 := by intro h; simp [foundE, h] at e0
    have hfF : foundF s.power k.data.toList es = getF k.data.toList es := by simp [foundF, hp]
    rw [hfF, e0] at HF
    rw [he, e0]
    have hG := hC.get k.data.toList
    obtain ⟨ao, cap, g, hv, hL, hno, hc1, hc2, _⟩ := lies_of_owned (hR.get k.data.toList)
    obtain ⟨c, hc⟩ : ∃ c, c = cutAt n (getF k.data.toList es).bs.length := ⟨_, rfl⟩
    have hcl : c ≤ (getF k.data.toList es).bs.length := by rw [hc]; unfold cutAt; omega
    have hrow := hR.get k.data.toList
    rw [hv] at hrow
    have hrow' := row_take hrow c hcl
    obtain ⟨fn', hfn⟩ : ∃ fn' : Fl, fn' = ⟨.slice ao c cap, (getF k.data.toList es).bs.take c, min (getF k.data.toList es).syn c⟩ := ⟨_, rfl⟩
    have hlen : ((getF k.data.toList es).bs.take c).length = c := by simp; omega
    have hg' : Good fn' := by rw [hfn]; exact ⟨⟨ao, cap, by simp only [hlen]⟩, by simp only [hlen]; omega, by simp only [hlen]; have := hG.2.2; omega⟩
    have HL : Hid (∀ W, Touch (fun _ => False) w W → Calls Try.prog 36 #[.pointer (some ⟨d, 0, none⟩), .string k, fn'.val] W (fun e w' => e = .returned (.tuple #[]) ∧ Core w' d m (es.length + 1) (aput k.data.toList fn' es) s.room s.power ∧ Touch (fun i => i = d ∨ i = m) W w')) := fun W t => lay_any (hC.touch t id id) k hk (by omega) fn' hg'
    have HS : Hid (∀ W, Core W d m (es.length + 1) (aput k.data.toList fn' es) s.room s.power → Calls Try.prog 37 #[.pointer (some ⟨d, 0, none⟩)] W (fun e w' => e = .returned (.tuple #[]) ∧ Core w' d m (es.length + 1) (aput k.data.toList fn' es) s.room (spent s.power) ∧ Touch (fun i => i = d) W w')) := fun W h => spend_any h
    have H1 : Hid (∀ W, Calls Try.prog 47 #[(getF k.data.toList es).val, .int .i64 n] W fun e w' => e = .returned fn'.val ∧ Touch (fun _ => False) W w') := by
      intro W
      have := first_raw ao (getF k.data.toList es).bs.length cap (getF k.data.toList es).syn c n W hni hG.2.2 hc1 (by unfold maxLen; omega) hG.2.1 hno hc
      rw [hfn]; unfold Fl.val; rw [hv]; exact this
    have HQ : Hid (∀ w1 w3 w4 : World, Touch (fun _ => False) w w1 → Core w4 d m (es.length + 1) (aput k.data.toList fn' es) s.room (spent s.power) → Touch (fun i => i = d ∨ i = m) w1 w3 → Touch (fun i => i = d) w3 w4 → DPost d F (mTrunc s k.data.toList n) w w4) := by
      intro w1 w3 w4 t1 h4 t3 t4
      have hm : mTrunc s k.data.toList n = s.to (aput k.data.toList (firstA (s.at k.data.toList) n) s.fs) := by unfold mTrunc; rw [if_pos (he.trans e0)]
      rw [hm]
      have tt : Touch (fun i => i = d ∨ i = m) w w4 := ((t1.mono fun _ _ h => h.elim).trans t3).trans (t4.mono fun _ _ h => .inl h)
      have hob : ∀ i, fn'.v.ownBlock = some i → (getF k.data.toList es).v.ownBlock = some i := by
        intro i hi; rw [hfn] at hi; rw [hv]
        cases ao with
        | none => simp [Value.ownBlock] at hi
        | some a => simpa [Value.ownBlock] using hi
      refine laid_same hC hR hF h4 (tt.mono ?_) ?_ (fun i _ hi => hob i hi) ?_
      · rintro i _ (h | h)
        · exact .inl h
        · exact .inr (.inl h)
      · have hr2 : w.ownsRow 0 5 1 fn'.v fn'.bs.length (cellsOf fn'.bs) := by rw [hfn]; exact hrow'
        exact row_touch hr2 tt fun i hi hx => by
          obtain ⟨n1, n2⟩ := hC.row_ne (hR.get _) (hob i hi)
          exact hx.elim n1 n2
      · show aput k.data.toList (firstA (s.at k.data.toList) n) s.fs = _
        rw [hat, hfs, hfn, hc]; rfl
    generalize aput k.data.toList fn' es = es' at HL HS HQ
    rw [hfn] at HL H1
    clear hat he hC hR hF hFl hD hfs hg' e0 hrow hrow' hL hlen
    obtain ⟨_, hs1, hs2⟩ := hG
    generalize getF k.data.toList es = f at *
    obtain ⟨v, bs, syn⟩ := f
    simp only at hv hs1 hs2 HL H1
    subst hv
    clear hfn hc
    simp only [Fl.val] at HF HL H1
    generalize mTrunc s k.data.toList n = S' at *
    go_enter Try.func16, Try.ntmps16
    go_wp2_with fail
    refine HF.out.mono ?_
    rintro e w1 ⟨rfl, hT⟩
    have HT : Hid (Touch (fun _ => False) w w1) := hT
    clear hT HF
    go_wp2_with fail
    refine (H1.out _).mono ?_
    rintro e w2 ⟨rfl, hT2⟩
    have HT2 : Hid (Touch (fun _ => False) w w2) := (HT.out.alloc _).trans hT2
    clear hT2 HT H1
    go_wp2_with fail
    refine (HL.out _ HT2.out).mono ?_
    rintro e w3 ⟨rfl, hC3, hT3⟩
    have H3 := (HS.out w3 hC3)
    have HT3 : Hid (Touch (fun i => i = d ∨ i = m) w2 w3) := hT3
    have HS3 : Hid (Calls Try.prog _ _ w3 _) := H3
    clear hT3 hC3 HL H3
    go_wp2_with fail
    refine HS3.out.mono ?_
    rintro e w4 ⟨rfl, hC4, hT4⟩
    have HZ : Hid (DPost d F S' w w4) := HQ.out _ _ _ HT2.out hC4 HT3.out hT4
    clear hC4 hT4 HS3 HQ
    go_wp2_with fail
    go_ret
    exact ⟨rfl, HZ.out⟩
  · have HQ : Hid (∀ w1 : World, Touch (fun _ => False) w w1 → ∀ o, DPost d F (mTrunc s k.data.toList n) w (w1.alloc o)) := by
      have hm : mTrunc s k.data.toList n = s := by unfold mTrunc; rw [if_neg (by rw [he]; exact e0)]
      intro w1 t o
      rw [hm]
      exact DPost.same hD (t.alloc o)
    rw [he]
    have hG : Good (foundF s.power k.data.toList es) := by
      unfold foundF; split
      · exact zero_good
      · exact hC.get _
    obtain ⟨⟨ao, cap, hv⟩, hs1, hs2⟩ := hG
    clear hat he hC hR hF hFl hD hfs
    generalize foundF s.power k.data.toList es = f at *
    obtain ⟨v, bs, syn⟩ := f
    simp only at hv hs1 hs2
    subst hv
    simp only [Fl.val] at HF
    generalize foundE s.power k.data.toList es = E at *
    generalize mTrunc s k.data.toList n = S' at *
    go_enter Try.func16, Try.ntmps16
    go_wp2_with fail
    refine HF.out.mono ?_
    rintro e w1 ⟨rfl, hT⟩
    have HT : Hid (Touch (fun _ => False) w w1) := hT
    clear hT HF
    go_wp2_with fail
    go_ret
    exact ⟨rfl, HQ.out _ HT.out _⟩
end Go.Proofs.Ytfmpbkdmcgkeoaa
