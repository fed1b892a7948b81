/- The contract of quirehelp.Copy. -/
import Derived.Test.YtaihofkmcpcjeaaDoorClone
import Derived.Laws.AppendOwnNone
import Derived.Test.YtaihofkmcpcjeaaDoorPart4
import Derived.Test.YtaihofkmcpcjeaaDoorTextLaws2
import Derived.Test.YtaihofkmcpcjeaaDoorVWrite
import Derived.Test.YtaihofkmcpcjeaaDoorRef2c
namespace Go.Proofs.YtaihofkmcpcjeaaDoor
open Go.RowKit
set_option linter.unusedVariables false

set_option maxRecDepth 100000 in
set_option maxHeartbeats 400000 in
theorem help_copy (g : Nat) (ao : Option Addr) (bs : List UInt8) (n cap : Nat) (hn : n = bs.length) (hnone : ao = none → cap = 0) (w : World) (h : Lies w g ao bs) (hl : bs.length ≤ 140737488355328) :
    Calls Tryd.prog 26 #[.slice ao n cap] w (ClonePost bs w) := by
  subst hn
  obtain ⟨i0, hi, hz0, hz1, hz2⟩ := info_parts Tryd.infoByte
  have hown : w.ownsRow w.heap.size 5 1 (.slice none 0 0) 0 [] := World.ownsRow_nil _ _ _ _
  cases ao with
  | none =>
    have hbs : bs = [] := by
      rcases h with h | ⟨off, e, _⟩
      · exact h
      · cases e
    subst hbs
    have hc := hnone rfl
    subst hc
    have HQ : Hid (ClonePost [] w (.returned (.slice none 0 0)) w) := ⟨_, rfl, World.ownsRow_nil _ _ _ _, Touch.refl _ _⟩
    go_enter Tryd.func26, Tryd.ntmps26
    go_wp2_with (first | (at_builtin; refine wpList_append_own_none rfl _ _ 40 rfl w.heap.size 5 i0 1 Tryd.underlying40 hi _ _ _ rfl hown rfl ?_))
    go_ret
    exact HQ.out
  | some a =>
    have HS : Hid (∀ j u, (cellsOf bs)[j]? = some u → w.cell? (a.add j) = some u) := h.cells
    clear h
    go_enter Tryd.func26, Tryd.ntmps26
    go_wp2_with (first | (at_builtin; refine wpList_append_own _ rfl _ _ 40 rfl w.heap.size 5 i0 (.int .u8 0) 1 1 Tryd.underlying40 hi hz0 hz1 hz2 rfl (by decide) _ _ _ rfl hown a bs.length cap (cellsOf bs) rfl ?c0 ?c1 ?c2 ?c3 ?c4 ?c5 ?_))
    case c0 => rw [cellsOf_length]; omega
    case c1 => exact HS.out
    case c2 => exact cellsOf_one bs
    case c3 => unfold maxLen; omega
    case c4 => omega
    case c5 => exact Nat.le_refl _
    intro v' w1 hown' hgrow _
    try simp only [Nat.zero_add, List.nil_append] at hown'
    have HQ : Hid (ClonePost bs w (.returned v') w1) := ⟨_, rfl, hown', (Touch.refl _ w).grown hgrow (fun i e hi => by simp [Value.ownBlock] at e)⟩
    obtain ⟨ao, n', cap', rfl⟩ : ∃ ao n cap, v' = .slice ao n cap := by
      rcases hown'.2 with ⟨e, _⟩ | ⟨g, cap, cur, e, _⟩
      · exact ⟨_, _, _, e⟩
      · exact ⟨_, _, _, e⟩
    clear hown' hgrow hown
    go_wp2_with fail
    go_ret
    exact HQ.out
end Go.Proofs.YtaihofkmcpcjeaaDoor

/- The contract of quireref2.Clean. -/
namespace Go.Proofs.YtaihofkmcpcjeaaDoor
open Go.RowKit
set_option linter.unusedVariables false

set_option maxRecDepth 100000 in
set_option maxHeartbeats 1000000 in
theorem ref_clean (v : V) (w : World) : Calls Tryd.prog 30 #[v.val] w fun e w' => e = .returned (refClean v).val ∧ w' = (w.alloc (.cells (refClean v).cells 24)).alloc (.cells (refClean v).cells 24) := by
  obtain ⟨k, n, f, s⟩ := v
  simp only [V.val, V.cells] at *
  have h1 := f64frombits_run
  have h2 := run_store_f64 Tryd.prog
  have HC : Hid ((refClean ⟨k, n, f, s⟩) = if k = 3 then ⟨k, n, refBits f, s⟩ else ⟨k, n, f, s⟩) := rfl
  generalize refClean ⟨k, n, f, s⟩ = C at *
  by_cases hk : k = 3
  · have t1 : (k == 3) = true := by rw [hk]; rfl
    have HE : Hid (C = ⟨k, n, refBits f, s⟩) := by rw [Hid, HC.out, if_pos hk]
    clear HC hk
    go_enter Tryd.func30, Tryd.ntmps30
    go_wp2_with fail
    refine (ref_bits f _).mono ?_
    rintro e w1 ⟨rfl, rfl⟩
    generalize refBits f = g at *
    go_wp2_with fail
    refine bodyPost_ret (v := .agg #[.int .i64 k, .int .i64 n, .float .f64 g, .string s]) (by simp [results, Tryd.results30, go_sem]) rfl ⟨by rw [HE.out], by rw [HE.out]⟩
  · have t1 : (k == 3) = false := by rw [beq_eq_false_iff_ne]; exact hk
    have HE : Hid (C = ⟨k, n, f, s⟩) := by rw [Hid, HC.out, if_neg hk]
    clear HC hk
    go_enter Tryd.func30, Tryd.ntmps30
    go_wp2_with fail
    refine bodyPost_ret (v := .agg #[.int .i64 k, .int .i64 n, .float .f64 f, .string s]) (by simp [results, Tryd.results30, go_sem]) rfl ⟨by rw [HE.out], by rw [HE.out]⟩
end Go.Proofs.YtaihofkmcpcjeaaDoor

/- Values that are taken; a Writer made just now. -/
namespace Go.Proofs.YtaihofkmcpcjeaaDoor
open Go.RowKit
set_option linter.unusedVariables false
set_option linter.unusedSimpArgs false
set_option maxRecDepth 100000

theorem taken_of (v : V) (hf : v.fits) (h : refCheck v = 0) : v.taken := by
  obtain ⟨k, n, f, s⟩ := v
  have hv : vOk ⟨k, n, f, s⟩ = true := by
    unfold refCheck at h
    cases hv : vOk ⟨k, n, f, s⟩
    · rw [hv] at h; simp at h
    · rfl
  have hs : s.toList.isEmpty = true → s = ⟨#[]⟩ := by
    intro e
    rw [ByteArray.toList_eq] at e
    have : s.data.toList = [] := by simpa using e
    exact ByteArray.ext (Array.ext' this)
  unfold vOk at hv
  simp only at hv
  split at hv
  · rename_i hk
    simp only [Bool.and_eq_true, beq_iff_eq] at hv
    exact ⟨hf, by simp only; omega, fun _ _ => hv.1.1, fun e => by simp only at e; omega, fun _ => by simp only; omega, fun _ => hs hv.2⟩
  split at hv
  · rename_i hk hk1
    simp only [Bool.and_eq_true, beq_iff_eq, Bool.or_eq_true] at hv
    exact ⟨hf, by simp only; omega, fun e => absurd hk1 e, fun _ => hv.1.1, fun _ => by simp only; omega, fun _ => hs hv.2⟩
  split at hv
  · rename_i hk hk1 hk2
    simp only [Bool.and_eq_true, beq_iff_eq] at hv
    exact ⟨hf, by simp only; omega, fun _ e => absurd hk2 e, fun e => absurd e hk1, fun _ => by simp only; omega, fun _ => hs hv.2⟩
  split at hv
  · rename_i hk hk1 hk2 hk3
    simp only [Bool.and_eq_true, beq_iff_eq] at hv
    exact ⟨hf, by simp only; omega, fun _ _ => hv.1, fun e => absurd e hk1, fun e => absurd hk3 e, fun _ => hs hv.2⟩
  split at hv
  · rename_i hk hk1 hk2 hk3 hk4
    simp only [Bool.and_eq_true, beq_iff_eq] at hv
    exact ⟨hf, by simp only; omega, fun _ _ => hv.1.1.1, fun e => absurd e hk1, fun _ => by simp only; omega, fun e => absurd hk4 e⟩
  · cases hv
theorem V.taken.good {v : V} (h : v.taken) : v.good := ⟨h.fit, h.kind, h.bool⟩
theorem putGo_len (f n : Nat) : (putGo f n).length ≤ f + 1 := by
  induction f generalizing n with
  | zero => simp [putGo]
  | succ f ih =>
    simp only [putGo]; split
    · simp
    · simp only [List.length_cons]; have := ih (n / 128); omega
theorem writeOf_len (v : V) : (writeOf v).length ≤ 20 + v.s.size := by
  unfold writeOf
  simp only [List.length_cons]
  split
  · simp; omega
  split
  · have := putGo_len 9 (unzz v.n); unfold putU; omega
  split
  · rw [putF_length]; omega
  split
  · unfold putT putU
    rw [List.length_append]
    have := putGo_len 9 v.s.size
    have e : v.s.data.toList.length = v.s.size := rfl
    omega
  · simp; omega

theorem boxes2_put {S : Nat → Prop} {w0 w w' : World} {A B : Nat} {k n k2 n2 : Int} {f f2 : Nat} {s s2 : ByteArray}
    (h : w.cell? ⟨A, 0, none⟩ = some (.int .i64 k) ∧ w.cell? ⟨A, 1, none⟩ = some (.int .i64 n) ∧ w.cell? ⟨A, 2, none⟩ = some (.float .f64 f) ∧ w.cell? ⟨A, 3, none⟩ = some (.string s) ∧ w.cell? ⟨B, 0, none⟩ = some (.int .i64 k2) ∧ w.cell? ⟨B, 1, none⟩ = some (.int .i64 n2) ∧ w.cell? ⟨B, 2, none⟩ = some (.float .f64 f2) ∧ w.cell? ⟨B, 3, none⟩ = some (.string s2) ∧ Hid (Touch (fun _ => False) w0 w)) (hT : Touch S w w') (hA : ¬ S A) (hB : ¬ S B) (h0 : Touch (fun _ => False) w0 w') :
    w'.cell? ⟨A, 0, none⟩ = some (.int .i64 k) ∧ w'.cell? ⟨A, 1, none⟩ = some (.int .i64 n) ∧ w'.cell? ⟨A, 2, none⟩ = some (.float .f64 f) ∧ w'.cell? ⟨A, 3, none⟩ = some (.string s) ∧ w'.cell? ⟨B, 0, none⟩ = some (.int .i64 k2) ∧ w'.cell? ⟨B, 1, none⟩ = some (.int .i64 n2) ∧ w'.cell? ⟨B, 2, none⟩ = some (.float .f64 f2) ∧ w'.cell? ⟨B, 3, none⟩ = some (.string s2) ∧ Hid (Touch (fun _ => False) w0 w') := by
  have go : ∀ (b o : Nat) (v : Value), ¬ S b → w.cell? ⟨b, o, none⟩ = some v → w'.cell? ⟨b, o, none⟩ = some v := fun b o v hb hv => (hT.cell (World.block_lt_of_cell? _ _ hv) hb o).trans hv
  obtain ⟨h1, h2, h3, h4, h5, h6, h7, h8, h9⟩ := h
  exact ⟨go _ _ _ hA h1, go _ _ _ hA h2, go _ _ _ hA h3, go _ _ _ hA h4, go _ _ _ hB h5, go _ _ _ hB h6, go _ _ _ hB h7, go _ _ _ hB h8, h0⟩
theorem wfoot_ne {w : World} {p q : Nat} {bs : List UInt8} {u : Value} (h : Wr w p bs) (hq : w.heap[q]? = some (.cells #[u] 42 (0, 0))) (hne : q ≠ p) : ¬ wfoot w p q := by
  obtain ⟨v, hp, hown⟩ := h
  rintro (e | ⟨x, hx, he⟩)
  · exact hne e
  · rw [cell_of_block hp] at hx
    simp at hx; subst hx
    exact row_ne hq hown he rfl

theorem Wr.new2 (w : World) : Wr (w.alloc (.cells #[.slice none 0 0] 42)) w.heap.size [] := ⟨_, heap_alloc_new _ _, World.ownsRow_nil _ _ _ _⟩
theorem wfoot_nil {w : World} {p : Nat} (h : w.heap[p]? = some (.cells #[.slice none 0 0] 42 (0, 0))) {k : Nat} (hf : wfoot w p k) : k = p := by
  rcases hf with e | ⟨v, hv, he⟩
  · exact e
  · rw [cell_of_block h] at hv
    simp at hv; subst hv; simp [Value.ownBlock] at he
theorem Lies.alloc' {w : World} {g : Nat} {ao : Option Addr} {bs : List UInt8} (h : Lies w g ao bs) (o : Obj) : Lies (w.alloc o) g ao bs :=
  h.keep fun e => Below.heap_alloc _ _ _ (h.lt e)
end Go.Proofs.YtaihofkmcpcjeaaDoor
