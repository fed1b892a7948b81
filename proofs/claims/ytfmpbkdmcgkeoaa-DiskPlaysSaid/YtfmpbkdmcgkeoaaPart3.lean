/- The document's disk: how much is used. -/
import Derived.Test.YtfmpbkdmcgkeoaaRefB
import Derived.Test.YtfmpbkdmcgkeoaaBClone
import Derived.Laws.AppendOwnNone
namespace Go.Proofs.Ytfmpbkdmcgkeoaa
open Go.RowKit Go.Maps
set_option linter.unusedVariables false
def rsum (l : List RFl) : Nat := (l.map fun f => f.bs.length).sum
theorem rsum_take_succ (l : List RFl) {j : Nat} (h : j < l.length) : rsum (l.take (j + 1)) = rsum (l.take j) + l[j].bs.length := by
  unfold rsum
  rw [List.take_succ_eq_append_getElem h, List.map_append, List.sum_append]; simp
theorem rsum_le {w : World} {r : Nat} : ∀ (l : List RFl), (∀ f ∈ l, RFOk w r f) → rsum l ≤ l.length * 4194304
  | [], _ => by simp [rsum]
  | f :: l, h => by
    have := rsum_le l fun x hx => h x (by simp [hx])
    have := (h f (by simp)).len
    simp only [rsum, List.map_cons, List.sum_cons, List.length_cons] at *
    omega
section
variable {w : World} {r : Nat} {v : Value} {l : List RFl} {room power : Int}
set_option maxRecDepth 100000 in
set_option maxHeartbeats 800000 in
theorem rused_any (h : RCore w r v l room power) (hl : l.length ≤ 1073741824) : Calls Try.prog 41 #[rp r] w fun e w' => e = .returned (.int .i64 (rsum l : Int)) ∧ w' = w := by
  have c0 := h.c0
  have HS : Hid (∀ j, rsum (l.take j) ≤ 4503599627370496) := by
    intro j
    have := rsum_le (w := w) (r := r) (l.take j) fun f hf => h.ok f (List.mem_of_mem_take hf)
    have := (List.take_sublist j l).length_le
    omega
  have HRow : Hid (l ≠ [] → ∃ g cap, v = .slice (some ⟨g, 0, none⟩) l.length cap ∧ ∀ j (h : j < l.length), w.cell? ⟨g, j * 3 + 1, none⟩ = some (.slice l[j].bo l[j].bs.length l[j].cap)) := by
    intro hne
    obtain ⟨g, cap, e, _, _, _, _, hx⟩ := h.row hne
    exact ⟨g, cap, e, fun j hj => (hx j hj).2.1⟩
  have hv : ∃ vo cap, v = .slice vo l.length cap := by
    rcases h.owns.2 with ⟨e, h0⟩ | ⟨g, cap, cur, e, _⟩
    · exact ⟨none, 0, by rw [e, h0]⟩
    · exact ⟨_, _, e⟩
  obtain ⟨vo, cap, rfl⟩ := hv
  clear h
  go_enter Try.func41, Try.ntmps41
  go_wp2_with fail
  go_loopw [3, 4] (fun n i wr => ∃ j : Nat, i = .int .i64 (j : Int) ∧ j ≤ l.length ∧ n = .int .i64 (rsum (l.take j) : Int) ∧ wr = w) (fun _ i _ => (l.length - intOf i).toNat)
  case atStart => exact ⟨0, rfl, Nat.zero_le _, rfl, rfl⟩
  case round =>
    obtain ⟨j, rfl, hj, rfl, hwr⟩ := hrel
    rw [hwr]
    by_cases hlt : j < l.length
    · have hne : l ≠ [] := by rintro rfl; simp at hlt
      obtain ⟨g, cap', e, hcell⟩ := HRow.out hne
      obtain ⟨rfl, _, rfl⟩ : vo = some ⟨g, 0, none⟩ ∧ True ∧ cap = cap' := by simpa using e
      have hx := hcell j hlt
      have hs := rsum_take_succ l hlt
      have hb := HS.out (j + 1)
      rw [hs] at hb
      have HE : Hid (rsum (l.take (j + 1)) = rsum (l.take j) + l[j].bs.length) := hs
      clear hcell e hne HRow HS hs
      generalize rsum (l.take j) = A at *
      generalize l[j].bs = bs at *
      go_wp2_with fail
      exact ⟨⟨j + 1, by go_num, by omega, by rw [HE.out]; go_num, trivial⟩, by simp [intOf]; omega⟩
    · have hjl : j = l.length := by omega
      subst hjl
      rw [List.take_length]
      go_wp2_with fail
      go_ret
      exact ⟨rfl, rfl⟩
end
end Go.Proofs.Ytfmpbkdmcgkeoaa

/- An append of bytes that lie somewhere to a slice of bytes that is owned. -/
namespace Go.Proofs.Ytfmpbkdmcgkeoaa
open Go.RowKit
set_option linter.unusedVariables false

theorem wpList_append_bytes (w : World) {ops : Array Oper} {rest : List Oper} {o : Oper} {a : Act} {Q : Exit → Act → World → Prop} (hgd : o.guard = none) (s x : Operand)
    (ho : o.op = .call { callee := .builtin .append, args := #[s, x], argTypes := #[29, 29] }) (v : Value) (bs : List UInt8) (hs : a.eval s = v) (hown : w.ownsRow 0 5 1 v bs.length (cellsOf bs))
    (g : Nat) (ao : Option Addr) (n cap : Nat) (b : List UInt8) (hx : a.eval x = .slice ao n cap) (hn : n = b.length) (hno : ao = none → cap = 0) (hL : Lies w g ao b) (hlen : bs.length + b.length ≤ 140737488355328)
    (h : ∀ v' w', Grow v v' (bs ++ b) w w' → wpList Try.prog ops Q rest (a.put o.dst v') w') : wpList Try.prog ops Q (o :: rest) a w := by
  subst hn
  obtain ⟨i0, hi, hz0, hz1, hz2⟩ := info_parts Try.infoByte
  cases ao with
  | none =>
    have hb : b = [] := by
      rcases hL with h | ⟨off, e, _⟩
      · exact h
      · cases e
    subst hb
    have hc := hno rfl
    subst hc
    refine wpList_append_own_none hgd s x 29 ho 0 5 i0 1 Try.underlying29 hi v bs.length (cellsOf bs) hs hown hx ?_
    refine h v w ?_
    rw [List.append_nil]
    exact Grow.refl hown
  | some ad =>
    refine wpList_append_own_at w hgd s x 29 ho 0 5 i0 (.int .u8 0) 1 1 Try.underlying29 hi hz0 hz1 hz2 rfl (by decide) v bs.length (cellsOf bs) hs hown ad b.length cap (cellsOf b) hx (by rw [cellsOf_length]; omega) hL.cells (cellsOf_one b) (by unfold maxLen; omega) (by omega) (Nat.zero_le _) ?_
    intro v' w' hown' hg _ hat
    refine h v' w' ⟨?_, (Touch.refl _ w).grown hg (fun i e _ => e), ?_⟩
    · rw [cellsOf_append, List.length_append]; exact hown'
    · intro k hk hv
      rcases hat with e | e
      · rw [← e]; exact hv
      · rw [hv] at e; simp at e; omega
end Go.Proofs.Ytfmpbkdmcgkeoaa
