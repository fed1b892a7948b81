/- Arguments that are scripts: slices of steps. -/
import Derived.Test.YtfmpbkdmcgkeoaaPart10
import Derived.Test.YtfmpbkdmcgkeoaaCrashL
import Derived.Deep.Slices
namespace Go.Proofs.Ytfmpbkdmcgkeoaa
open Go.ChangeShapes Go.WideShapes Go.ChangeAt Go.RowKit
set_option linter.unusedVariables false

/-- A step of a script, and where its bytes and numbers lie. -/
structure StepV where
  what : Int
  n : Int
  name : ByteArray
  tgt : ByteArray
  bo : Option Addr
  b : List UInt8
  bcap : Nat
  bg : Nat
  ko : Option Addr
  keep : List Int
  kcap : Nat
  kg : Nat

def i64in (x : Int) : Prop := -9223372036854775808 ≤ x ∧ x ≤ 9223372036854775807

/-- What is so of a step that came in. -/
structure StepOk (w : World) (x : StepV) : Prop where
  what : i64in x.what
  n : i64in x.n
  name : x.name.size ≤ 140737488355328
  tgt : x.tgt.size ≤ 140737488355328
  bl : Lies w x.bg x.bo x.b
  bno : x.bo = none → x.bcap = 0
  blen : x.b.length ≤ 140737488355328
  kl : LiesI w x.kg x.ko x.keep
  klen : x.keep.length ≤ 140737488355328
  kin : ∀ y ∈ x.keep, i64in y

/-- Its cells. -/
structure StepAt (w : World) (g o : Nat) (x : StepV) : Prop where
  c0 : w.cell? ⟨g, o, none⟩ = some (.int .i64 x.what)
  c1 : w.cell? ⟨g, o + 1, none⟩ = some (.int .i64 x.n)
  c2 : w.cell? ⟨g, o + 2, none⟩ = some (.string x.name)
  c3 : w.cell? ⟨g, o + 3, none⟩ = some (.string x.tgt)
  c4 : w.cell? ⟨g, o + 4, none⟩ = some (.slice x.bo x.b.length x.bcap)
  c5 : w.cell? ⟨g, o + 5, none⟩ = some (.slice x.ko x.keep.length x.kcap)

/-- A script that lies in w. -/
structure Steps (w : World) (ao : Option Addr) (l : List StepV) : Prop where
  ok : ∀ x ∈ l, StepOk w x
  cells : ∀ i (h : i < l.length), ∃ g off, ao = some ⟨g, off, none⟩ ∧ StepAt w g (off + i * 6) l[i]

theorem weightsAll_mem {H : Type} {P : Program} {e : TypeId} {d : DataW H} {y : Nat} (hy : y ∈ d.weights P e) : ∀ {l : List (DataW H)}, d ∈ l → y ∈ DataW.weightsAll P e l
  | [], h => by cases h
  | a :: r, h => by
    unfold DataW.weightsAll
    rcases List.mem_cons.1 h with rfl | h
    · exact List.mem_append.2 (.inl hy)
    · exact List.mem_append.2 (.inr (weightsAll_mem hy h))

/-- Numbers that came in. -/
theorem intsIn_of {H : Type} {enc : TypeId × Value → H} {P : Program} {w : World} {base : Nat} {held : Bool} {t e : TypeId} {fuel : Nat} {cs : List Value} {x : DataW H × List MemPlace}
    (ht : P.underlying t = some (.slice e)) (he : P.underlying e = some (.int .i64)) (hc : P.cellsOf e = 1) (hb : P.bytesOf e = 8)
    (h : DataW.trod enc P w base (fun _ => true) held fuel t cs = some x) (hw : ∀ y ∈ x.1.weights P t, y ≤ reachBytes) :
    ∃ (ko : Option Addr) (kcap kg : Nat) (keep : List Int), cs = [.slice ko keep.length kcap] ∧ LiesI w kg ko keep ∧ keep.length ≤ 140737488355328 ∧ (∀ y ∈ keep, i64in y) ∧ (ko = none → kcap = 0) ∧ keep.length ≤ kcap ∧ kcap ≤ maxLen := by
  have hr := reachBytes_lt
  rcases open_ints ht he hc h with ⟨hcs, hx⟩ | ⟨a, l, c, zs, hcs, _, hl, hm, hz, hx, hcell, hwz⟩
  · exact ⟨none, 0, 0, [], hcs, .inl rfl, by simp, (by intro y hy; cases hy), fun _ => rfl, Nat.le_refl _, by simp [maxLen]⟩
  · simp only [if_true] at hz
    have hlen : (zs.take l).length = l := by simp; omega
    have hs : l ≤ 140737488355328 := by
      have := hw ((lits .i64 (zs.take l)).length * 8 + (lits .i64 (zs.drop l)).length * 8) (by
        rw [hx]
        simp only [DataW.weights, ht, hb]
        rw [Nat.add_mul]
        exact List.mem_cons_self ..)
      have e1 : (lits (H := H) .i64 (zs.take l)).length = l := by simp [lits]; omega
      rw [e1] at this
      omega
    refine ⟨some a, c, a.block, zs.take l, by rw [hlen]; exact hcs, ?_, by omega, ?_, (by intro h; cases h), by omega, hm⟩
    · by_cases hn : l = 0
      · subst hn; exact .inl (by simp)
      · have h0 : w.cell? (a.add 0) = some (.int .i64 (zs.getD 0 0)) := hcell 0 (by omega)
        obtain ⟨b, off, rfl, _⟩ : ∃ b off, a = ⟨b, off, none⟩ ∧ True := by
          obtain ⟨b, off, spot⟩ := a
          cases spot with
          | none => exact ⟨b, off, rfl, trivial⟩
          | some s => exfalso; simp [World.cell?, Addr.add] at h0; split at h0 <;> simp_all
        refine .inr ⟨off, rfl, fun j hj => ?_⟩
        rw [hlen] at hj
        have e2 : (⟨b, off, none⟩ : Addr).add j = ⟨b, off + j, none⟩ := by unfold Addr.add; split <;> simp_all
        have hj2 : j < zs.length := by omega
        rw [← e2, hcell j hj2]
        simp [List.getElem?_eq_getElem hj2]
    · intro y hy
      have := hwz y (List.mem_of_mem_take hy)
      simp [Lit.wf, IntKind.min, IntKind.max, IntKind.signed, IntKind.bits] at this
      unfold i64in; omega

set_option maxRecDepth 100000 in
theorem cellsStep : Try.prog.cellsOf 32 = 6 := by kernel_rfl

set_option maxRecDepth 100000 in
set_option maxHeartbeats 1000000 in
theorem step_of {H : Type} {enc : TypeId × Value → H} {w : World} {held : Bool} {fuel : Nat} {cs : List Value} {x : DataW H × List MemPlace}
    (h : DataW.trod enc Try.prog w 0 (fun _ => true) held fuel 32 cs = some x) (hw : ∀ y ∈ x.1.weights Try.prog 32, y ≤ reachBytes) :
    ∃ s : StepV, cs = [.int .i64 s.what, .int .i64 s.n, .string s.name, .string s.tgt, .slice s.bo s.b.length s.bcap, .slice s.ko s.keep.length s.kcap] ∧ StepOk w s := by
  have hr := reachBytes_lt
  obtain ⟨xs, n, _, hx, hl, hxl, hf⟩ := DataW.trod_struct Try.underlying32 h
  rw [cellsStep] at hl
  match xs, hxl, cs, hl with
  | [y0, y1, y2, y3, y4, y5], _, [v0, v1, v2, v3, v4, v5], _ =>
    have g0 : DataW.trod enc Try.prog w 0 (fun _ => true) held n 3 [v0] = some y0 := hf 0 _ rfl
    have g1 : DataW.trod enc Try.prog w 0 (fun _ => true) held n 3 [v1] = some y1 := hf 1 _ rfl
    have g2 : DataW.trod enc Try.prog w 0 (fun _ => true) held n 9 [v2] = some y2 := hf 2 _ rfl
    have g3 : DataW.trod enc Try.prog w 0 (fun _ => true) held n 9 [v3] = some y3 := hf 3 _ rfl
    have g4 : DataW.trod enc Try.prog w 0 (fun _ => true) held n 29 [v4] = some y4 := hf 4 _ rfl
    have g5 : DataW.trod enc Try.prog w 0 (fun _ => true) held n 30 [v5] = some y5 := hf 5 _ rfl
    have hd : x.1 = .agg [y0.1, y1.1, y2.1, y3.1, y4.1, y5.1] := by rw [hx]; rfl
    have hws : ∀ (j : Nat) (t : TypeId) (d : DataW H), [3, 3, 9, 9, 29, 30][j]? = some t → [y0.1, y1.1, y2.1, y3.1, y4.1, y5.1][j]? = some d → ∀ y ∈ d.weights Try.prog t, y ≤ reachBytes := by
      intro j t d ht hdj y hy
      refine hw y ?_
      rw [hd]
      unfold DataW.weights
      rw [Try.underlying32]
      exact DataW.weights_mem_each (ts := [3, 3, 9, 9, 29, 30]) ht hdj y hy
    obtain ⟨k0, e0, _, w0⟩ := DataW.trod_int Try.underlying3 g0
    obtain ⟨k1, e1, _, w1⟩ := DataW.trod_int Try.underlying3 g1
    obtain ⟨s2, e2, f2, w2⟩ := DataW.trod_string Try.underlying9 g2
    obtain ⟨s3, e3, f3, w3⟩ := DataW.trod_string Try.underlying9 g3
    simp at e0 e1 e2 e3
    subst e0 e1 e2 e3
    simp [Lit.wf, IntKind.min, IntKind.max, IntKind.signed, IntKind.bits] at w0 w1
    have z2 := hws 2 9 y2.1 rfl rfl s2.data.toList.length (by rw [f2]; simp [DataW.weights])
    have z3 := hws 3 9 y3.1 rfl rfl s3.data.toList.length (by rw [f3]; simp [DataW.weights])
    rw [Array.length_toList] at z2 z3
    have q2 : s2.size ≤ 140737488355328 := by show s2.data.size ≤ _; omega
    have q3 : s3.size ≤ 140737488355328 := by show s3.data.size ≤ _; omega
    obtain ⟨ko, kcap, kg, keep, e5, l5, n5, i5, _⟩ := intsIn_of Try.underlying30 Try.underlying3 (by kernel_rfl) (by kernel_rfl) g5 (hws 5 30 y5.1 rfl rfl)
    obtain ⟨bo, bn, bc, rfl⟩ : ∃ bo bn bc, v4 = .slice bo bn bc := by
      rcases DataW.trod_slice Try.underlying29 g4 with ⟨h0, _⟩ | ⟨a, len, cap, _, _, _, _, h0, _⟩
      · simp at h0; exact ⟨_, _, _, h0⟩
      · simp at h0; exact ⟨_, _, _, h0⟩
    obtain ⟨bg, b, B⟩ := bytesIn_of Try.underlying29 Try.underlying5 (by kernel_rfl) (ao := bo) (n := bn) (cap := bc) (by simpa [Value.cells] using g4)
    have hbl : b.length ≤ 140737488355328 := by
      have hl := B.len
      rcases B.size with h0 | ⟨el, sp, hd4, hel⟩
      · omega
      · have := hws 4 29 y4.1 rfl rfl ((el.length + sp.length) * Try.prog.bytesOf 5) (by
          rw [hd4]; unfold DataW.weights; rw [Try.underlying29]; exact List.mem_cons_self ..)
        rw [show Try.prog.bytesOf 5 = 1 from by kernel_rfl] at this
        omega
    simp at e5
    refine ⟨⟨k0, k1, s2, s3, bo, b, bc, bg, ko, keep, kcap, kg⟩, ?_, ?_⟩
    · rw [e5, B.len]
    · exact ⟨by unfold i64in; simp only; omega, by unfold i64in; simp only; omega, q2, q3, B.lies, B.none, hbl, l5, n5, i5⟩

set_option maxRecDepth 100000 in
set_option maxHeartbeats 1000000 in
theorem steps_of {H : Type} {enc : TypeId × Value → H} {w : World} {held : Bool} {fuel n cap : Nat} {ao : Option Addr} {x : DataW H × List MemPlace}
    (h : DataW.trod enc Try.prog w 0 (fun _ => true) held fuel 22 (Value.slice ao n cap).cells.toList = some x) (hw : ∀ y ∈ x.1.weights Try.prog 22, y ≤ reachBytes) :
    ∃ l : List StepV, n = l.length ∧ Steps w ao l ∧ (ao = none → cap = 0) ∧ l.length ≤ 140737488355328 := by
  have hr := reachBytes_lt
  rcases Deep.open_slice Try.underlying22 h with ⟨hcs, hx⟩ | ⟨a, len, c, m, k, D, Pl, hcs, _, hl, hm, hmm, hx, hel⟩
  · simp [Value.cells] at hcs
    obtain ⟨rfl, rfl, rfl⟩ := hcs
    exact ⟨[], rfl, ⟨(by intro x hx; cases hx), (by intro i hi; simp at hi)⟩, fun _ => rfl, by simp⟩
  · simp [Value.cells] at hcs
    obtain ⟨rfl, rfl, rfl⟩ := hcs
    simp only [if_true] at hmm
    have hD : x.1 = .slice ((List.range n).map D) ((List.range (m - n)).map fun j => D (n + j)) := by rw [hx]
    have hn : n ≤ 140737488355328 := by
      have := hw (((List.range n).map D).length * Try.prog.bytesOf 32 + ((List.range (m - n)).map fun j => D (n + j)).length * Try.prog.bytesOf 32) (by
        rw [hD]; unfold DataW.weights; rw [Try.underlying22, ← Nat.add_mul]; exact List.mem_cons_self ..)
      rw [show Try.prog.bytesOf 32 = 96 from by kernel_rfl, List.length_map, List.length_range] at this
      omega
    have each : ∀ i, i < n → ∃ s : StepV, StepOk w s ∧ ∀ j, j < 6 → w.cell? ((a.add (i * 6)).add j) = [Value.int .i64 s.what, .int .i64 s.n, .string s.name, .string s.tgt, .slice s.bo s.b.length s.bcap, .slice s.ko s.keep.length s.kcap][j]? := by
      intro i hi
      obtain ⟨cs', h1, h2⟩ := hel i (by omega)
      rw [cellsStep] at h1
      obtain ⟨_, _, hc⟩ := World.cells?_some h1
      obtain ⟨s, hs, hok⟩ := step_of h2 (fun y hy => hw y (by
        rw [hD]; unfold DataW.weights; rw [Try.underlying22]
        exact List.mem_cons_of_mem _ (List.mem_append.2 (.inl (weightsAll_mem hy (List.mem_map.2 ⟨i, List.mem_range.2 hi, rfl⟩))))))
      exact ⟨s, hok, fun j hj => by rw [hc j hj, hs]⟩
    haveI : Inhabited StepV := ⟨⟨0, 0, ⟨#[]⟩, ⟨#[]⟩, none, [], 0, 0, none, [], 0, 0⟩⟩
    obtain ⟨f, hf⟩ := Deep.choose_lt each
    refine ⟨(List.range n).map f, by simp, ⟨?_, ?_⟩, (by intro h; cases h), by simpa using hn⟩
    · intro y hy
      obtain ⟨i, hi, rfl⟩ := List.mem_map.1 hy
      exact (hf i (List.mem_range.1 hi)).1
    · intro i hi
      have hi' : i < n := by simpa using hi
      have hc := (hf i hi').2
      have h0 : w.cell? ((a.add (0 * 6)).add 0) = some (Value.int .i64 (f 0).what) := (hf 0 (by omega)).2 0 (by decide)
      obtain ⟨b, off, rfl, _⟩ : ∃ b off, a = ⟨b, off, none⟩ ∧ True := by
        obtain ⟨b, off, spot⟩ := a
        cases spot with
        | none => exact ⟨b, off, rfl, trivial⟩
        | some s => exfalso; clear hf each hel h hx hc; simp [World.cell?, Addr.add] at h0; split at h0 <;> simp_all
      have e2 : ∀ j, ((⟨b, off, none⟩ : Addr).add (i * 6)).add j = ⟨b, off + i * 6 + j, none⟩ := by
        intro j
        unfold Addr.add
        by_cases hj : j = 0 <;> by_cases hii : i * 6 = 0 <;> simp_all
      refine ⟨b, off, rfl, ?_⟩
      have el : ((List.range n).map f)[i] = f i := by simp
      rw [el]
      refine ⟨?_, ?_, ?_, ?_, ?_, ?_⟩
      · have := hc 0 (by decide); rw [e2] at this; simpa using this
      · have := hc 1 (by decide); rw [e2] at this; simpa using this
      · have := hc 2 (by decide); rw [e2] at this; simpa using this
      · have := hc 3 (by decide); rw [e2] at this; simpa using this
      · have := hc 4 (by decide); rw [e2] at this; simpa using this
      · have := hc 5 (by decide); rw [e2] at this; simpa using this
end Go.Proofs.Ytfmpbkdmcgkeoaa
