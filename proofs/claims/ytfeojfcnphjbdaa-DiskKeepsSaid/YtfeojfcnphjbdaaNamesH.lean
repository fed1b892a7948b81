/- Names that lie in a row, quirehelp.Strings, and the copy of a disk. -/
import Derived.Test.YtfeojfcnphjbdaaCopyD
import Derived.Test.YtfeojfcnphjbdaaLiveD
import Derived.Test.YtfeojfcnphjbdaaHelpD
import Derived.BigRegion
namespace Go.Proofs.Ytfeojfcnphjbdaa
open Go.RowKit Go.Maps Go.Sort
set_option linter.unusedVariables false

def nameV (k : Key) : ByteArray := ⟨k.toArray⟩
/-- Names that lie in block g. -/
def LiesN (w : World) (g : Nat) (ao : Option Addr) (ks : List Key) : Prop :=
  ks = [] ∨ (ao = some ⟨g, 0, none⟩ ∧ ∀ j (h : j < ks.length), w.cell? ⟨g, j, none⟩ = some (.string (nameV ks[j])))
theorem LiesN.lt {w : World} {g : Nat} {ao : Option Addr} {ks : List Key} (h : LiesN w g ao ks) (e : ks ≠ []) : g < w.heap.size := by
  rcases h with h | ⟨_, h⟩
  · exact absurd h e
  · exact World.block_lt_of_cell? _ _ (h 0 (List.length_pos_iff.2 e))
theorem LiesN.keep {w w' : World} {g : Nat} {ao : Option Addr} {ks : List Key} (h : LiesN w g ao ks) (hg : ks ≠ [] → w'.heap[g]? = w.heap[g]?) : LiesN w' g ao ks := by
  by_cases e : ks = []
  · exact .inl e
  · rcases h with h | ⟨ha, h⟩
    · exact .inl h
    · exact .inr ⟨ha, fun j hj => by rw [World.cell?_of_block (hg e)]; exact h j hj⟩
theorem LiesN.touch {w w' : World} {g : Nat} {ao : Option Addr} {ks : List Key} (h : LiesN w g ao ks) (t : Touch (fun _ => False) w w') : LiesN w' g ao ks := h.keep fun e => t.block g (h.lt e) id
theorem names_lie {ks : List Key} {w w' : World} {e : Ending} (h : NamesPost ks w e w') : ∃ ao cap g, e = .returned (.slice ao ks.length cap) ∧ LiesN w' g ao ks ∧ (ks ≠ [] → w.heap.size ≤ g ∧ g < w'.heap.size) ∧ Touch (fun _ => False) w w' := by
  obtain ⟨v, rfl, hrow, t⟩ := h
  rcases hrow.2 with ⟨e, h0⟩ | ⟨g, cap, cur, e, hb, hg, q1, q2, q3, q4⟩
  · have : ks = [] := List.length_eq_zero_iff.1 (by omega)
    subst this
    exact ⟨none, 0, 0, by rw [e]; rfl, .inl rfl, fun h => absurd rfl h, t⟩
  · refine ⟨some ⟨g, 0, none⟩, cap, g, by rw [e], .inr ⟨rfl, fun j hj => ?_⟩, fun _ => ⟨hb, lt_of_heap hg⟩, t⟩
    rw [cell_of_block hg]
    have h5 : (ks.map Go.Proofs.encStr)[j]? = some (.string (nameV ks[j])) := by rw [List.getElem?_map, List.getElem?_eq_getElem hj]; rfl
    rw [← q4, List.getElem?_take, if_pos (by omega)] at h5
    rw [← h5, Array.getElem?_toList]
theorem bbeq_self (S : ByteArray) : (S == S) = true := by
  cases S with
  | mk a => exact (beq_self_eq_true a)

set_option maxRecDepth 100000 in
set_option maxHeartbeats 400000 in
/-- The same names in two rows. -/
theorem strings_any (ks : List Key) (hks : ks.length ≤ 140737488355328) (w : World) (g1 g2 : Nat) (ao bo : Option Addr) (n m c1 c2 : Nat) (hn : n = ks.length) (hm : m = ks.length) (h1 : LiesN w g1 ao ks) (h2 : LiesN w g2 bo ks) :
    Calls Try.prog 37 #[.slice ao n c1, .slice bo m c2] w fun e w' => e = .returned (.bool true) ∧ Touch (fun _ => False) w w' := by
  subst hn hm
  have H1 : Hid (LiesN w g1 ao ks) := h1
  have H2 : Hid (LiesN w g2 bo ks) := h2
  clear h1 h2
  go_enter Try.func37, Try.ntmps37
  go_wp2_with fail
  go_loopw [5] (fun i wr => ∃ k : Nat, i = .int .i64 (k : Int) ∧ k ≤ ks.length ∧ Touch (fun _ => False) w wr) (fun i _ => (ks.length - intOf i).toNat)
  case atStart => exact ⟨0, rfl, Nat.zero_le _, Touch.refl _ _⟩
  case round =>
    obtain ⟨k, rfl, hk, ht⟩ := hrel
    have HT : Hid (Touch (fun _ => False) w wr) := ht
    clear ht
    by_cases hlt : k < ks.length
    · have hne : ks ≠ [] := by rintro rfl; simp at hlt
      obtain ⟨rfl, hc1⟩ := (H1.out.touch HT.out).resolve_left hne
      obtain ⟨rfl, hc2⟩ := (H2.out.touch HT.out).resolve_left hne
      have hx := hc1 k hlt
      have hy := hc2 k hlt
      clear hc1 hc2 hne
      generalize nameV ks[k] = S at *
      have hS := bbeq_self S
      go_wp2_with fail
      go_region
      all_goals (try go_wp2_with fail)
      go_roundw
      case rel => exact ⟨k + 1, by go_num, by omega, HT.out.drew⟩
      case measure => simp [intOf]; omega
    · go_wp2_with fail
      go_ret
      exact ⟨rfl, HT.out⟩

theorem lCopy {w0 w : World} {d : Nat} {F : Nat → Prop} {s : St} (h : Live w0 w d F s) (hn : s.fs.length ≤ 1073741823) : Calls Try.prog 32 #[dp d] w fun e w' => ∃ c G, e = .returned (dp c) ∧ Live w w' c G s := by
  obtain ⟨m, es, hC, hR, hfs, hF, hFl⟩ := h.disk
  refine (copy_any hC hR (by rw [hfs, length_amap] at hn; exact hn)).mono ?_
  rintro e w' ⟨rfl, left, es', hl, hcp⟩
  have ee := copy_end hcp.rel hl hC.rising hcp.rising
  have eu : used es' = used es := by
    have := congrArg (asum fun x : List UInt8 × Nat => x.1.length) ee
    rw [asum_amap, asum_amap] at this; exact this
  refine ⟨w.heap.size, fun k => w.heap.size ≤ k ∧ k < w'.heap.size, rfl, ⟨w.heap.size + 1, es', Core.tight ⟨?_, hcp.own, hcp.rising, hcp.good, hC.room0, hC.room1, hC.pow0, hC.pow1, hcp.keys⟩, hcp.rows, by rw [hfs, ee], ?_, fun k hk => hk.2⟩, hcp.touch, fun k hk => hk.1⟩
  · rw [eu]; exact hcp.cell
  · have hsz := hcp.size
    rintro k (rfl | rfl | ⟨p, hp, hk⟩)
    · exact ⟨Nat.le_refl _, by omega⟩
    · exact ⟨by omega, by omega⟩
    · obtain ⟨c, hc⟩ := row_lt (hcp.rows.row p hp) hk
      exact ⟨by have := hcp.new p hp k hk; omega, lt_of_heap hc⟩
end Go.Proofs.Ytfeojfcnphjbdaa
