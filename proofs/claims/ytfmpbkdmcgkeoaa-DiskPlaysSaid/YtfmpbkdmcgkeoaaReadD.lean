/- The contract of disk's Read. -/
import Derived.Test.YtfmpbkdmcgkeoaaPosts
import Derived.Test.YtfmpbkdmcgkeoaaPart8
import Derived.Test.YtfmpbkdmcgkeoaaBClone
namespace Go.Proofs.Ytfmpbkdmcgkeoaa
open Go.RowKit Go.Maps
set_option linter.unusedVariables false

set_option maxRecDepth 100000 in
set_option maxHeartbeats 800000 in
theorem read_any {w : World} {d : Nat} {F : Nat → Prop} {s : St} (hD : Disk w d F s) (hn : s.fs.length ≤ 1073741823) (k : ByteArray) (hk : k.size ≤ 281474976710656) :
    Calls Try.prog 20 #[.pointer (some ⟨d, 0, none⟩), .string k] w fun e w' => (∃ v, e = .returned (.tuple #[v, .int .i64 (s.err k.data.toList)]) ∧ w'.ownsRow w.heap.size 5 1 v (mRead s k.data.toList).length (cellsOf (mRead s k.data.toList))) ∧ Touch (fun _ => False) w w' := by
  obtain ⟨m, es, hC, hR, hfs, hF, hFl⟩ := id hD
  have hn2 : es.length ≤ 1073741823 := by rw [hfs, length_amap] at hn; exact hn
  have hkm : k.size ≤ maxLen := by unfold maxLen; omega
  have HF : Hid (Calls Try.prog 44 #[.pointer (some ⟨d, 0, none⟩), .string k] w fun e w' => e = .returned (.tuple #[(foundF s.power k.data.toList es).val, .int .i64 (foundE s.power k.data.toList es)]) ∧ Touch (fun _ => False) w w') := find_any hC k hkm
  have he : s.err k.data.toList = foundE s.power k.data.toList es := err_of hfs _
  have hat : s.at k.data.toList = (getF k.data.toList es).abs := at_of hfs _
  rw [he]
  have hmr : mRead s k.data.toList = (foundF s.power k.data.toList es).bs := by
    unfold mRead
    rw [he, hat]
    unfold foundE foundF
    by_cases hp : s.power = 0
    · simp [hp, zeroF]
    · simp only [if_neg hp]
      cases ha : aget k.data.toList es with
      | none => simp [getF, ha, zeroF]
      | some f => simp [getF, ha, Fl.abs]
  have hG : Good (foundF s.power k.data.toList es) := by
    unfold foundF; split
    · exact zero_good
    · exact hC.get _
  have hrow : w.ownsRow 0 5 1 (foundF s.power k.data.toList es).v (foundF s.power k.data.toList es).bs.length (cellsOf (foundF s.power k.data.toList es).bs) := by
    unfold foundF; split
    · exact World.ownsRow_nil _ _ _ _
    · exact hR.get _
  rw [hmr]
  clear hat he hC hR hF hFl hD hfs hmr
  obtain ⟨_, hs1, hs2⟩ := hG
  generalize foundF s.power k.data.toList es = f at *
  obtain ⟨v, bs, syn⟩ := f
  simp only at hrow hs1 hs2
  have HR : Hid (w.ownsRow 0 5 1 v bs.length (cellsOf bs)) := hrow
  obtain ⟨ao, cap, g, rfl, hL, hno, hc1, hc2, _⟩ := lies_of_owned hrow
  have HC : Hid (∀ W, Touch (fun _ => False) w W → Calls Try.prog 48 #[.slice ao bs.length cap] W (ClonePost bs W)) := by
    intro W t
    obtain ⟨ao2, cap2, g2, e2, hL2, hno2, _⟩ := lies_of_owned (row_touch HR.out t fun _ _ => id)
    cases e2
    exact bclone_any g2 ao bs bs.length cap rfl hno2 W hL2 (by omega)
  clear hL hrow hno
  simp only [Fl.val] at HF
  simp only
  generalize foundE s.power k.data.toList es = E at *
  go_enter Try.func20, Try.ntmps20
  go_wp2_with fail
  refine HF.out.mono ?_
  rintro e w1 ⟨rfl, hT⟩
  have HT : Hid (Touch (fun _ => False) w w1) := hT
  clear hT HF
  go_wp2_with fail
  refine (HC.out _ (HT.out.alloc _)).mono ?_
  rintro e w2 ⟨v, rfl, hrow, hT2⟩
  have HZ : Hid (w2.ownsRow w.heap.size 5 1 v bs.length (cellsOf bs) ∧ Touch (fun _ => False) w w2) := ⟨row_base hrow (by have := HT.out.size; simp; omega), (HT.out.alloc _).trans hT2⟩
  clear hrow hT2 HC
  go_wp2_with fail
  exact bodyPost_ret (v := .tuple #[v, .int .i64 E]) (by simp [results, Try.results20, go_sem]) rfl ⟨⟨v, rfl, HZ.out.1⟩, HZ.out.2⟩
end Go.Proofs.Ytfmpbkdmcgkeoaa
