/- Bytes that lie, as a string. -/
import Derived.Test.YtfmpbkdmcgkeoaaPart1
import Derived.Laws.IdiomStrings
import Derived.Laws.BytesArg
import Derived.Test.YtfmpbkdmcgkeoaaBClone
import Derived.Test.YtfmpbkdmcgkeoaaCopyD
import Derived.Test.YtfmpbkdmcgkeoaaLiveD
import Derived.BigRegion
namespace Go.Proofs.Ytfmpbkdmcgkeoaa
open Go.RowKit
set_option linter.unusedVariables false
set_option linter.unusedSimpArgs false

theorem lies_string {w : World} {g : Nat} {ao : Option Addr} {bs : List UInt8} (h : Lies w g ao bs) (n cap : Nat) (hn : n = bs.length) : (convert 29 9 (.slice ao n cap)).run Try.prog w = .ok (.string ⟨bs.toArray⟩) w := by
  subst hn
  rcases ao with _ | a
  · rcases h with rfl | ⟨off, e, _⟩
    · exact run_convert_bytes_nil w 29 5 Try.underlying29 Try.underlying5 _ _ 9 Try.underlying9
    · cases e
  · refine run_convert_bytes_back w 29 9 5 a cap bs Try.underlying29 Try.underlying5 Try.underlying9 ?_
    intro j hj
    rcases h with rfl | ⟨off, e, h⟩
    · simp at hj
    · cases e
      have e2 : (⟨g, off, none⟩ : Addr).add j = ⟨g, off + j, none⟩ := by unfold Addr.add; split <;> simp_all
      rw [e2]; exact h j hj

end Go.Proofs.Ytfmpbkdmcgkeoaa

/- The contracts of quirehelp's Bytes and Place. -/
namespace Go.Proofs.Ytfmpbkdmcgkeoaa
open Go.RowKit
set_option linter.unusedVariables false
set_option linter.unusedSimpArgs false

set_option maxRecDepth 100000 in
set_option maxHeartbeats 400000 in
theorem help_bytes (g g2 : Nat) (ao bo : Option Addr) (a b : List UInt8) (n m c d : Nat) (hn : n = a.length) (hm : m = b.length) (w : World) (h1 : Lies w g ao a) (h2 : Lies w g2 bo b) :
    Calls Try.prog 22 #[.slice ao n c, .slice bo m d] w fun e w' => e = .returned (.bool (a == b)) ∧ w' = w := by
  subst hn hm
  have k1 := lies_string h1 a.length c rfl
  have k2 := lies_string h2 b.length d rfl
  clear h1 h2
  go_enter Try.func22, Try.ntmps22
  go_wp2
  go_ret
  exact ⟨rfl, rfl⟩

/-- A place below m. -/
def place (k m : Int) : Int := if k.tmod m < 0 then k.tmod m + m else k.tmod m
theorem place_nat (k : Int) (m : Nat) (hm : 0 < m) : ∃ c : Nat, c < m ∧ place k m = (c : Int) := by
  have h1 := Int.tmod_lt_of_pos k (b := m) (by omega)
  have h2 := Int.lt_tmod_of_pos k (b := m) (by omega)
  refine ⟨(place k m).toNat, ?_, ?_⟩ <;> unfold place <;> split <;> omega

end Go.Proofs.Ytfmpbkdmcgkeoaa

/- Names that lie in a row, quirehelp.Strings, and the copy of a disk. -/
namespace Go.Proofs.Ytfmpbkdmcgkeoaa
open Go.RowKit Go.Maps Go.Sort
set_option linter.unusedVariables false

def nameV (k : Key) : ByteArray := ⟨k.toArray⟩
/-- Names that lie in block g. -/
def LiesN (w : World) (g : Nat) (ao : Option Addr) (ks : List Key) : Prop :=
  ks = [] ∨ (ao = some ⟨g, 0, none⟩ ∧ ∀ j (h : j < ks.length), w.cell? ⟨g, j, none⟩ = some (.string (nameV ks[j])))
theorem LiesN.lt {w : World} {g : Nat} {ao : Option Addr} {ks : List Key} (h : LiesN w g ao ks) (e : ks ≠ []) : g < w.heap.size := by
  rcases h with h | ⟨_, h⟩
  · exact absurd h e
  · exact World.block_lt_of_cell? _ _ (h 0 (List.length_pos_iff.2 e))
theorem LiesN.keep {w w' : World} {g : Nat} {ao : Option Addr} {ks : List Key} (h : LiesN w g ao ks) (hg : ks ≠ [] → w'.heap[g]? = w.heap[g]?) : LiesN w' g ao ks := by
  by_cases e : ks = []
  · exact .inl e
  · rcases h with h | ⟨ha, h⟩
    · exact .inl h
    · exact .inr ⟨ha, fun j hj => by rw [World.cell?_of_block (hg e)]; exact h j hj⟩
theorem LiesN.touch {w w' : World} {g : Nat} {ao : Option Addr} {ks : List Key} (h : LiesN w g ao ks) (t : Touch (fun _ => False) w w') : LiesN w' g ao ks := h.keep fun e => t.block g (h.lt e) id
theorem names_lie {ks : List Key} {w w' : World} {e : Ending} (h : NamesPost ks w e w') : ∃ ao cap g, e = .returned (.slice ao ks.length cap) ∧ LiesN w' g ao ks ∧ (ks ≠ [] → w.heap.size ≤ g ∧ g < w'.heap.size) ∧ Touch (fun _ => False) w w' := by
  obtain ⟨v, rfl, hrow, t⟩ := h
  rcases hrow.2 with ⟨e, h0⟩ | ⟨g, cap, cur, e, hb, hg, q1, q2, q3, q4⟩
  · have : ks = [] := List.length_eq_zero_iff.1 (by omega)
    subst this
    exact ⟨none, 0, 0, by rw [e]; rfl, .inl rfl, fun h => absurd rfl h, t⟩
  · refine ⟨some ⟨g, 0, none⟩, cap, g, by rw [e], .inr ⟨rfl, fun j hj => ?_⟩, fun _ => ⟨hb, lt_of_heap hg⟩, t⟩
    rw [cell_of_block hg]
    have h5 : (ks.map Go.Proofs.encStr)[j]? = some (.string (nameV ks[j])) := by rw [List.getElem?_map, List.getElem?_eq_getElem hj]; rfl
    rw [← q4, List.getElem?_take, if_pos (by omega)] at h5
    rw [← h5, Array.getElem?_toList]
theorem bbeq_self (S : ByteArray) : (S == S) = true := by
  cases S with
  | mk a => exact (beq_self_eq_true a)

set_option maxRecDepth 100000 in
set_option maxHeartbeats 400000 in
/-- The same names in two rows. -/
theorem lCopy {w0 w : World} {d : Nat} {F : Nat → Prop} {s : St} (h : Live w0 w d F s) (hn : s.fs.length ≤ 1073741823) : Calls Try.prog 29 #[dp d] w fun e w' => ∃ c G, e = .returned (dp c) ∧ Live w w' c G s := by
  obtain ⟨m, es, hC, hR, hfs, hF, hFl⟩ := h.disk
  refine (copy_any hC hR (by rw [hfs, length_amap] at hn; exact hn)).mono ?_
  rintro e w' ⟨rfl, left, es', hl, hcp⟩
  have ee := copy_end hcp.rel hl hC.rising hcp.rising
  have eu : used es' = used es := by
    have := congrArg (asum fun x : List UInt8 × Nat => x.1.length) ee
    rw [asum_amap, asum_amap] at this; exact this
  refine ⟨w.heap.size, fun k => w.heap.size ≤ k ∧ k < w'.heap.size, rfl, ⟨w.heap.size + 1, es', Core.tight ⟨?_, hcp.own, hcp.rising, hcp.good, hC.room0, hC.room1, hC.pow0, hC.pow1, hcp.keys⟩, hcp.rows, by rw [hfs, ee], ?_, fun k hk => hk.2⟩, hcp.touch, fun k hk => hk.1⟩
  · rw [eu]; exact hcp.cell
  · have hsz := hcp.size
    rintro k (rfl | rfl | ⟨p, hp, hk⟩)
    · exact ⟨Nat.le_refl _, by omega⟩
    · exact ⟨by omega, by omega⟩
    · obtain ⟨c, hc⟩ := row_lt (hcp.rows.row p hp) hk
      exact ⟨by have := hcp.new p hp k hk; omega, lt_of_heap hc⟩
end Go.Proofs.Ytfmpbkdmcgkeoaa
