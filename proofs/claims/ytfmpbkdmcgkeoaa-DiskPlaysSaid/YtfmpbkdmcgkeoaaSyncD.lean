/- The contract of disk's Sync. -/
import Derived.Test.YtfmpbkdmcgkeoaaPosts
import Derived.Test.YtfmpbkdmcgkeoaaLay2
namespace Go.Proofs.Ytfmpbkdmcgkeoaa
open Go.RowKit Go.Maps
set_option linter.unusedVariables false

set_option maxRecDepth 100000 in
set_option maxHeartbeats 800000 in
theorem sync_any {w : World} {d : Nat} {F : Nat → Prop} {s : St} (hD : Disk w d F s) (hn : s.fs.length ≤ 1073741823) (k : ByteArray) (hk : k.size ≤ 281474976710656) :
    Calls Try.prog 12 #[.pointer (some ⟨d, 0, none⟩), .string k] w fun e w' => e = .returned (.int .i64 (s.err k.data.toList)) ∧ DPost d F (mSync s k.data.toList) w w' := by
  obtain ⟨m, es, hC, hR, hfs, hF, hFl⟩ := id hD
  have hn2 : es.length ≤ 1073741823 := by rw [hfs, length_amap] at hn; exact hn
  have hkm : k.size ≤ maxLen := by unfold maxLen; omega
  have HF : Hid (Calls Try.prog 44 #[.pointer (some ⟨d, 0, none⟩), .string k] w fun e w' => e = .returned (.tuple #[(foundF s.power k.data.toList es).val, .int .i64 (foundE s.power k.data.toList es)]) ∧ Touch (fun _ => False) w w') := find_any hC k hkm
  have he : s.err k.data.toList = foundE s.power k.data.toList es := err_of hfs _
  have hat : s.at k.data.toList = (getF k.data.toList es).abs := at_of hfs _
  by_cases e0 : foundE s.power k.data.toList es = 0
  · have hp : s.power ≠ 0 := by intro h; simp [foundE, h] at e0
    have hfF : foundF s.power k.data.toList es = getF k.data.toList es := by simp [foundF, hp]
    rw [hfF, e0] at HF
    rw [he, e0]
    have hG := hC.get k.data.toList
    obtain ⟨fn', hfn⟩ : ∃ fn' : Fl, fn' = ⟨(getF k.data.toList es).v, (getF k.data.toList es).bs, (getF k.data.toList es).bs.length⟩ := ⟨_, rfl⟩
    have hg' : Good fn' := by rw [hfn]; exact ⟨hG.1, Nat.le_refl _, hG.2.2⟩
    have HL : Hid (∀ W, Touch (fun _ => False) w W → Calls Try.prog 36 #[.pointer (some ⟨d, 0, none⟩), .string k, fn'.val] W (fun e w' => e = .returned (.tuple #[]) ∧ Core w' d m (es.length + 1) (aput k.data.toList fn' es) s.room s.power ∧ Touch (fun i => i = d ∨ i = m) W w')) := fun W t => lay_any (hC.touch t id id) k hk (by omega) fn' hg'
    have HS : Hid (∀ W, Core W d m (es.length + 1) (aput k.data.toList fn' es) s.room s.power → Calls Try.prog 37 #[.pointer (some ⟨d, 0, none⟩)] W (fun e w' => e = .returned (.tuple #[]) ∧ Core w' d m (es.length + 1) (aput k.data.toList fn' es) s.room (spent s.power) ∧ Touch (fun i => i = d) W w')) := fun W h => spend_any h
    have HQ : Hid (∀ w1 w3 w4 : World, Touch (fun _ => False) w w1 → Core w4 d m (es.length + 1) (aput k.data.toList fn' es) s.room (spent s.power) → Touch (fun i => i = d ∨ i = m) w1 w3 → Touch (fun i => i = d) w3 w4 → DPost d F (mSync s k.data.toList) w w4) := by
      intro w1 w3 w4 t1 h4 t3 t4
      have hm : mSync s k.data.toList = s.to (aput k.data.toList ((s.at k.data.toList).1, (s.at k.data.toList).1.length) s.fs) := by unfold mSync; rw [if_pos (he.trans e0)]
      rw [hm]
      have tt : Touch (fun i => i = d ∨ i = m) w w4 := ((t1.mono fun _ _ h => h.elim).trans t3).trans (t4.mono fun _ _ h => .inl h)
      refine laid_same hC hR hF h4 (tt.mono ?_) ?_ ?_ ?_
      · rintro i _ (h | h)
        · exact .inl h
        · exact .inr (.inl h)
      · rw [hfn]
        exact row_touch (hR.get _) tt fun i hi hx => by
          obtain ⟨n1, n2⟩ := hC.row_ne (hR.get _) hi
          exact hx.elim n1 n2
      · intro i _ hi; rw [hfn] at hi; exact hi
      · show aput k.data.toList ((s.at k.data.toList).1, (s.at k.data.toList).1.length) s.fs = _
        rw [hat, hfs, hfn]; rfl
    generalize aput k.data.toList fn' es = es' at HL HS HQ
    rw [hfn] at HL
    clear hat he hC hR hF hFl hD hfs hg' e0
    obtain ⟨⟨ao, cap, hv⟩, hs1, hs2⟩ := hG
    generalize getF k.data.toList es = f at *
    obtain ⟨v, bs, syn⟩ := f
    simp only at hv hs1 hs2
    subst hv
    clear hfn
    simp only [Fl.val] at HF HL
    generalize mSync s k.data.toList = S' at *
    go_enter Try.func12, Try.ntmps12
    go_wp2_with fail
    refine HF.out.mono ?_
    rintro e w1 ⟨rfl, hT⟩
    have HT : Hid (Touch (fun _ => False) w w1) := hT
    clear hT HF
    go_wp2_with fail
    refine (HL.out _ (HT.out.alloc _)).mono ?_
    rintro e w3 ⟨rfl, hC3, hT3⟩
    have H3 := (HS.out w3 hC3)
    have HT3 : Hid (Touch (fun i => i = d ∨ i = m) (w1.alloc _) w3) := hT3
    have HS3 : Hid (Calls Try.prog _ _ w3 _) := H3
    clear hT3 hC3 HL H3
    go_wp2_with fail
    refine HS3.out.mono ?_
    rintro e w4 ⟨rfl, hC4, hT4⟩
    have HZ : Hid (DPost d F S' w w4) := HQ.out _ _ _ (HT.out.alloc _) hC4 HT3.out hT4
    clear hC4 hT4 HS3 HQ
    go_wp2_with fail
    go_ret
    exact ⟨rfl, HZ.out⟩
  · have HQ : Hid (∀ w1 : World, Touch (fun _ => False) w w1 → ∀ o, DPost d F (mSync s k.data.toList) w (w1.alloc o)) := by
      have hm : mSync s k.data.toList = s := by unfold mSync; rw [if_neg (by rw [he]; exact e0)]
      intro w1 t o
      rw [hm]
      exact DPost.same hD (t.alloc o)
    rw [he]
    have hG : Good (foundF s.power k.data.toList es) := by
      unfold foundF; split
      · exact zero_good
      · exact hC.get _
    obtain ⟨⟨ao, cap, hv⟩, hs1, hs2⟩ := hG
    clear hat he hC hR hF hFl hD hfs
    generalize foundF s.power k.data.toList es = f at *
    obtain ⟨v, bs, syn⟩ := f
    simp only at hv hs1 hs2
    subst hv
    simp only [Fl.val] at HF
    generalize foundE s.power k.data.toList es = E at *
    generalize mSync s k.data.toList = S' at *
    go_enter Try.func12, Try.ntmps12
    go_wp2_with fail
    refine HF.out.mono ?_
    rintro e w1 ⟨rfl, hT⟩
    have HT : Hid (Touch (fun _ => False) w w1) := hT
    clear hT HF
    go_wp2_with fail
    go_ret
    exact ⟨rfl, HQ.out _ HT.out _⟩
end Go.Proofs.Ytfmpbkdmcgkeoaa
