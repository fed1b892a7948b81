/- The document's disk: where a name stands in its list. -/
import Derived.Test.YtfmpbkdmcgkeoaaRefA
import Derived.BigRegion
namespace Go.Proofs.Ytfmpbkdmcgkeoaa
open Go.RowKit Go.Maps
set_option linter.unusedVariables false

theorem rcells_get : ∀ (l : List RFl) (j : Nat) (h : j < l.length), (rcells l)[j * 3]? = some (.string l[j].name) ∧ (rcells l)[j * 3 + 1]? = some (.slice l[j].bo l[j].bs.length l[j].cap) ∧ (rcells l)[j * 3 + 2]? = some (.int .i64 (l[j].syn : Int))
  | f :: r, 0, _ => ⟨rfl, rfl, rfl⟩
  | f :: r, j + 1, h => by
    have ih := rcells_get r j (by simpa using h)
    have e : rcells (f :: r) = .string f.name :: .slice f.bo f.bs.length f.cap :: .int .i64 (f.syn : Int) :: rcells r := rfl
    rw [e, show (j + 1) * 3 = j * 3 + 3 from by omega]
    exact ih
theorem rcells_len (l : List RFl) : (rcells l).length = l.length * 3 := by
  induction l with
  | nil => rfl
  | cons f r ih => have e : rcells (f :: r) = f.cells ++ rcells r := rfl
                   rw [e, List.length_append, ih]; simp [RFl.cells]; omega
section
variable {w : World} {r : Nat} {v : Value} {l : List RFl} {room power : Int}
/-- The list's cells. -/
theorem RCore.row (h : RCore w r v l room power) (hl : l ≠ []) : ∃ g cap, v = .slice (some ⟨g, 0, none⟩) l.length cap ∧ g ≠ r ∧ g < w.heap.size ∧ l.length ≤ cap ∧ cap ≤ 9223372036854775807 ∧ ∀ j (h : j < l.length), w.cell? ⟨g, j * 3, none⟩ = some (.string l[j].name) ∧ w.cell? ⟨g, j * 3 + 1, none⟩ = some (.slice l[j].bo l[j].bs.length l[j].cap) ∧ w.cell? ⟨g, j * 3 + 2, none⟩ = some (.int .i64 (l[j].syn : Int)) := by
  rcases h.owns.2 with ⟨_, h0⟩ | ⟨g, cap, cur, e, hb, hg, q1, q2, q3, q4⟩
  · exact absurd (List.length_eq_zero_iff.1 (by omega)) hl
  · refine ⟨g, cap, e, fun x => h.ne (by rw [e, ← x]; rfl), lt_of_heap hg, q1, q2, fun j hj => ?_⟩
    obtain ⟨a, b, c⟩ := rcells_get l j hj
    rw [← q4, List.getElem?_take, if_pos (by omega), Array.getElem?_toList] at a b c
    refine ⟨?_, ?_, ?_⟩ <;> rw [cell_of_block hg] <;> assumption
theorem less_before : ∀ a b : Key, Op.bytesLess a b = bytesBefore a b
  | [], [] => rfl
  | [], _ :: _ => rfl
  | _ :: _, [] => rfl
  | a :: x, b :: y => by simp [Op.bytesLess, bytesBefore, less_before x y]
def RFl.key (f : RFl) : Key := f.name.data.toList
/-- Where a name stands, or would. -/
def ridx (k : Key) (l : List RFl) : Nat := (l.takeWhile fun f => bytesBefore f.key k).length
def ris (k : Key) (l : List RFl) : Bool := match l[ridx k l]? with | some f => f.key == k | none => false
theorem ridx_le (k : Key) (l : List RFl) : ridx k l ≤ l.length := by
  unfold ridx
  exact (List.takeWhile_sublist _).length_le
theorem ridx_lt (k : Key) : ∀ (l : List RFl) (j : Nat) (h : j < l.length), j < ridx k l → bytesBefore l[j].key k = true
  | f :: r, j, h, hj => by
    unfold ridx at hj
    by_cases hb : bytesBefore f.key k = true
    · simp only [List.takeWhile_cons, hb, if_true] at hj
      cases j with
      | zero => exact hb
      | succ j => exact ridx_lt k r j (by simpa using h) (by simpa [ridx] using hj)
    · simp [hb] at hj
theorem ridx_at (k : Key) : ∀ (l : List RFl) (h : ridx k l < l.length), bytesBefore l[ridx k l].key k = false
  | f :: r, h => by
    by_cases hb : bytesBefore f.key k = true
    · have e : ridx k (f :: r) = ridx k r + 1 := by simp [ridx, hb]
      simp only [e]
      exact ridx_at k r (by rw [e] at h; simpa using h)
    · have e : ridx k (f :: r) = 0 := by simp [ridx, hb]
      simp only [e]
      simpa using hb

set_option maxRecDepth 100000 in
set_option maxHeartbeats 1600000 in
theorem rat_any (h : RCore w r v l room power) (k : ByteArray) (hk : k.size ≤ 281474976710656) (hl : l.length ≤ 1073741824) :
    Calls Try.prog 40 #[rp r, .string k] w fun e w' => e = .returned (.tuple #[.int .i64 (ridx k.data.toList l : Int), .bool (ris k.data.toList l)]) ∧ Touch (fun _ => False) w w' := by
  have c0 := h.c0
  obtain ⟨I, hI⟩ : ∃ I, I = ridx k.data.toList l := ⟨_, rfl⟩
  have hIl : I ≤ l.length := by rw [hI]; exact ridx_le _ _
  have HB : Hid (∀ j (hj : j < l.length), j < I → (Op.bytesLess l[j].name.toList k.toList) = true) := by
    intro j hj hji
    rw [ByteArray.toList_eq, ByteArray.toList_eq, less_before]; exact ridx_lt _ l j hj (by rw [← hI]; exact hji)
  have HE : Hid (∀ hj : I < l.length, (Op.bytesLess l[I].name.toList k.toList) = false) := by
    intro hj
    rw [ByteArray.toList_eq, ByteArray.toList_eq, less_before]
    subst hI
    exact ridx_at _ l hj
  have HR : Hid (∀ hj : I < l.length, (l[I].name.toList == k.toList) = ris k.data.toList l) := by
    intro hj
    unfold ris
    rw [ByteArray.toList_eq, ByteArray.toList_eq, ← hI, List.getElem?_eq_getElem hj]; rfl
  have HR0 : Hid (I = l.length → ris k.data.toList l = false) := by
    intro e
    unfold ris
    rw [← hI, e, List.getElem?_eq_none (Nat.le_refl _)]
  have HRow : Hid (l ≠ [] → ∃ g cap, v = .slice (some ⟨g, 0, none⟩) l.length cap ∧ l.length ≤ cap ∧ ∀ j (h : j < l.length), w.cell? ⟨g, j * 3, none⟩ = some (.string l[j].name)) := by
    intro hne
    obtain ⟨g, cap, e, _, _, hc, _, hx⟩ := h.row hne
    exact ⟨g, cap, e, hc, fun j hj => (hx j hj).1⟩
  have hv : ∃ vo cap, v = .slice vo l.length cap := by
    rcases h.owns.2 with ⟨e, h0⟩ | ⟨g, cap, cur, e, _⟩
    · exact ⟨none, 0, by rw [e, h0]⟩
    · exact ⟨_, _, e⟩
  obtain ⟨vo, cap, rfl⟩ := hv
  rw [← hI]
  clear h hI
  generalize ris k.data.toList l = B at *
  go_enter Try.func40, Try.ntmps40
  go_wp2_with fail
  go_loopw [6] (fun i wr => ∃ j : Nat, i = .int .i64 (j : Int) ∧ j ≤ I ∧ wr = w) (fun i _ => (I - intOf i).toNat)
  case atStart => exact ⟨0, rfl, Nat.zero_le _, rfl⟩
  case round =>
    obtain ⟨j, rfl, hj, hwr⟩ := hrel
    rw [hwr]
    by_cases hlt : j < l.length
    · have hne : l ≠ [] := by rintro rfl; simp at hlt
      obtain ⟨g, cap', e, hcap, hcell⟩ := HRow.out hne
      obtain ⟨rfl, _, rfl⟩ : vo = some ⟨g, 0, none⟩ ∧ True ∧ cap = cap' := by simpa using e
      have hx := hcell j hlt
      by_cases hji : j < I
      · have hb := HB.out j hlt hji
        clear hcell e hne HRow HB HE HR HR0
        generalize l[j].name = nm at *
        go_wp2_with fail
        exact ⟨⟨j + 1, by go_num, by omega, trivial⟩, by simp [intOf]; omega⟩
      · have hjI : j = I := by omega
        subst hjI
        have hb := HE.out hlt
        have hr := HR.out hlt
        clear hcell e hne HRow HB HE HR HR0
        generalize l[j].name = nm at *
        go_wp2_with fail
        go_region
        all_goals (try go_wp2_with fail)
        all_goals exact bodyPost_ret (v := .tuple #[.int .i64 (j : Int), .bool B]) (by simp [results, Try.results40, go_sem]) rfl ⟨rfl, (Touch.refl _ w).drew⟩
    · have hjI : j = I := by omega
      have hIL : I = l.length := by omega
      have hB := HR0.out hIL
      subst hjI hB
      clear HRow HB HE HR HR0
      go_wp2_with fail
      go_region
      all_goals (try go_wp2_with fail)
      all_goals exact bodyPost_ret (v := .tuple #[.int .i64 (j : Int), .bool false]) (by simp [results, Try.results40, go_sem]) rfl ⟨rfl, (Touch.refl _ w).drew⟩
end
end Go.Proofs.Ytfmpbkdmcgkeoaa
