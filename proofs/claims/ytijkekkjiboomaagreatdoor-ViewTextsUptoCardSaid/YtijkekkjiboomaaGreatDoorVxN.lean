/- Arguments that are lists of runs, and what their bulk bounds. -/
import Derived.Test.YtijkekkjiboomaaGreatDoorPart27
import Derived.Test.YtijkekkjiboomaaGreatDoorPart10
import Derived.Test.YtijkekkjiboomaaGreatDoorRows
import Derived.ChangeArms
import Derived.ChangeSame
import Derived.Deep.Slices
import Derived.ChangeMaps5
import Derived.SizedLaws
import Derived.Lib.SmallJoins
namespace Go.Proofs.YtijkekkjiboomaaGreatDoor
open Go.ChangeShapes Go.WideShapes Go.ChangeAt Go.RowKit Go.Joins
set_option linter.unusedVariables false
set_option linter.unusedSimpArgs false
set_option maxRecDepth 100000

theorem cellsI : Tryz.prog.cellsOf 3 = 1 := by kernel_rfl
theorem cellsI6 : Tryz.prog.cellsOf 2 = 1 := by kernel_rfl
theorem cellsF : Tryz.prog.cellsOf 41 = 1 := by kernel_rfl
theorem cellsB : Tryz.prog.cellsOf 4 = 1 := by kernel_rfl
theorem cellsS : Tryz.prog.cellsOf 9 = 1 := by kernel_rfl
theorem cellsOfY : Tryz.prog.cellsOf 45 = 5 := by kernel_rfl
theorem cellsOfW : Tryz.prog.cellsOf 48 = 7 := by kernel_rfl
section
variable {H : Type} {enc : TypeId × Value → H} {w : World} {base : Nat} {spare : Nat → Bool} {held : Bool}
theorem i64_of {n : Nat} {a : Value} {y : DataW H × List MemPlace} (h : DataW.trod enc Tryz.prog w base spare held n 3 [a] = some y) : ∃ c : Int, a = .int .i64 c ∧ -9223372036854775808 ≤ c ∧ c < 9223372036854775808 := by
  obtain ⟨k, e0, _, w0⟩ := DataW.trod_int Tryz.underlying3 h
  simp at e0
  simp [Lit.wf, IntKind.min, IntKind.max, IntKind.signed, IntKind.bits] at w0
  exact ⟨k, e0, by omega, by omega⟩
theorem i64_of' {n : Nat} {a : Value} {y : DataW H × List MemPlace} (h : DataW.trod enc Tryz.prog w base spare held n 2 [a] = some y) : ∃ c : Int, a = .int .i64 c ∧ -9223372036854775808 ≤ c ∧ c < 9223372036854775808 := by
  obtain ⟨k, e0, _, w0⟩ := DataW.trod_int Tryz.underlying2 h
  simp at e0
  simp [Lit.wf, IntKind.min, IntKind.max, IntKind.signed, IntKind.bits] at w0
  exact ⟨k, e0, by omega, by omega⟩
theorem str_of {n : Nat} {a : Value} {y : DataW H × List MemPlace} (h : DataW.trod enc Tryz.prog w base spare held n 9 [a] = some y) : ∃ s : ByteArray, a = .string s ∧ s.size ≤ 9223372036854775807 ∧ s.size + 1 ≤ Rows.uptoBulk y.1 := by
  obtain ⟨s, e3, e4, w3⟩ := DataW.trod_string Tryz.underlying9 h
  simp at e3
  refine ⟨s, e3, by unfold maxLen at w3; omega, ?_⟩
  rw [e4]
  simp only [Rows.uptoBulk]
  rw [Array.length_toList]
  exact Nat.le_refl _
theorem bool_of {n : Nat} {a : Value} {y : DataW H × List MemPlace} (h : DataW.trod enc Tryz.prog w base spare held n 4 [a] = some y) : ∃ b : Bool, a = .bool b := by
  obtain ⟨b, e, _⟩ := DataW.trod_bool Tryz.underlying4 h
  simp at e
  exact ⟨b, e⟩
theorem f64_of {n : Nat} {a : Value} {y : DataW H × List MemPlace} (h : DataW.trod enc Tryz.prog w base spare held n 41 [a] = some y) : ∃ f : Nat, a = .float .f64 f ∧ f < 18446744073709551616 := by
  obtain ⟨f, e, h2⟩ := trod_f64 Tryz.underlying41 h
  simp at e
  exact ⟨f, e, h2⟩
theorem bulk_one (d : DataW H) : 1 ≤ Rows.uptoBulk d := by
  cases d with
  | lit l => cases l <;> simp [Rows.uptoBulk]
  | nil => simp [Rows.uptoBulk]
  | ptr d => simp [Rows.uptoBulk]
  | slice elems spare => simp [Rows.uptoBulk]
  | agg parts => simp [Rows.uptoBulk]
  | iface t d => simp [Rows.uptoBulk]
  | map entries => simp [Rows.uptoBulk]
  | held h => simp [Rows.uptoBulk]
theorem bulk_all (l : List (DataW H)) : Rows.uptoBulkAll l = (l.map Rows.uptoBulk).sum := by
  induction l with
  | nil => simp [Rows.uptoBulkAll]
  | cons d l ih => simp only [Rows.uptoBulkAll, List.map_cons, List.sum_cons, ih]
theorem bulk_slice (a b : List (DataW H)) : (a.map Rows.uptoBulk).sum + 1 ≤ Rows.uptoBulk (.slice a b) := by
  simp only [Rows.uptoBulk]
  rw [bulk_all]; omega
theorem val_of {n : Nat} {a b d e : Value} {y : DataW H × List MemPlace} (h : DataW.trod enc Tryz.prog w base spare held n 43 [a, b, d, e] = some y) : ∃ v : V, a = .int .i64 v.k ∧ b = .int .i64 v.n ∧ d = .float .f64 v.f ∧ e = .string v.s ∧ v.fits ∧ v.s.size + 1 ≤ Rows.uptoBulk y.1 := by
  obtain ⟨y0, y1, y2, y3, m, he, _, h0, h1, h2, h3⟩ := trod_struct4 Tryz.underlying43 h
  obtain ⟨k, e0, w0⟩ := i64_of (a := a) (by simpa [cellsI] using h0)
  obtain ⟨m, e1, w1⟩ := i64_of' (a := b) (by simpa [cellsI6] using h1)
  obtain ⟨f, e2, w2⟩ := f64_of (a := d) (by simpa [cellsF] using h2)
  obtain ⟨s, e3, w3, w4⟩ := str_of (a := e) (by simpa [cellsS] using h3)
  refine ⟨⟨k, m, f, s⟩, e0, e1, e2, e3, ⟨w0.1, w0.2, w1.1, w1.2, w2, w3⟩, ?_⟩
  rw [he]
  simp only [Rows.uptoBulk, Rows.uptoBulkAll]
  omega
theorem mark_of {fuel : Nat} {cs : List Value} {x : DataW H × List MemPlace} (h : DataW.trod enc Tryz.prog w base spare held fuel 45 cs = some x) : ∃ r : Mk, cs = cellY r ∧ r.v.fits ∧ wtm r + 3 ≤ Rows.uptoBulk x.1 := by
  obtain ⟨xs, n, _, hx, hl, hxl, hf⟩ := DataW.trod_struct Tryz.underlying45 h
  rw [cellsOfY] at hl
  match xs, hxl, cs, hl with
  | [y0, y1], _, [v0, v1, v2, v3, v4], _ =>
    have g0 : DataW.trod enc Tryz.prog w base spare held n 9 [v0] = some y0 := hf 0 _ rfl
    have g1 : DataW.trod enc Tryz.prog w base spare held n 43 [v1, v2, v3, v4] = some y1 := hf 1 _ rfl
    obtain ⟨s, rfl, _, q0⟩ := str_of g0
    obtain ⟨v, rfl, rfl, rfl, rfl, hv, q1⟩ := val_of g1
    refine ⟨⟨s, v.k, v.n, v.f, v.s⟩, rfl, hv, ?_⟩
    rw [hx]
    simp only [Rows.uptoBulk, Rows.uptoBulkAll, List.map_cons, List.map_nil]
    show s.size + v.s.size + 3 ≤ _
    omega
theorem sum_range_le {n : Nat} {f g : Nat → Nat} (h : ∀ i, i < n → f i ≤ g i) : ((List.range n).map f).sum ≤ ((List.range n).map g).sum := by
  induction n with
  | zero => simp
  | succ n ih =>
    rw [List.range_succ, List.map_append, List.map_append, List.sum_append, List.sum_append]
    have := ih fun i hi => h i (by omega)
    have := h n (by omega)
    simp
    omega
theorem spot_none {w : World} {a : Addr} {u : Value} (h : w.cell? (a.add 0) = some u) : ∃ b off, a = ⟨b, off, none⟩ := by
  obtain ⟨b, off, spot⟩ := a
  cases spot with
  | none => exact ⟨b, off, rfl⟩
  | some s => exfalso; simp [World.cell?, Addr.add] at h; split at h <;> simp_all
theorem marks_of {fuel : Nat} {v : Value} {x : DataW H × List MemPlace} (h : DataW.trod enc Tryz.prog w 0 (fun _ => true) held fuel 46 [v] = some x) :
    ∃ (s : Sw) (l : List Mk), v = s.val ∧ SlY w s.val l ∧ (∀ r ∈ l, r.v.fits) ∧ 3 * l.length + (l.map wtm).sum + 1 ≤ Rows.uptoBulk x.1 := by
  rcases Deep.open_slice Tryz.underlying46 h with ⟨hcs, hx⟩ | ⟨a, n, cap, m, k, D, Pl, hcs, _, hl, hm, hmm, hx, hel⟩
  · simp only [List.cons.injEq, and_true] at hcs
    subst hcs
    refine ⟨⟨none, 0, 0⟩, [], rfl, SlY.nil w, (by intro x hx; cases hx), ?_⟩
    rw [hx]; simp [Rows.uptoBulk]
  · simp only [List.cons.injEq, and_true] at hcs
    subst hcs
    simp only [if_true] at hmm
    have each : ∀ i, i < n → ∃ s : Mk, (s.v.fits ∧ wtm s + 3 ≤ Rows.uptoBulk (D i)) ∧ ∀ j, j < 5 → w.cell? ((a.add (i * 5)).add j) = (cellY s)[j]? := by
      intro i hi
      obtain ⟨cs', h1, h2⟩ := hel i (by omega)
      rw [cellsOfY] at h1
      obtain ⟨_, _, hc⟩ := World.cells?_some h1
      obtain ⟨s, hs, hok, hb⟩ := mark_of h2
      exact ⟨s, ⟨hok, hb⟩, fun j hj => by rw [hc j hj, hs]⟩
    obtain ⟨f, hf⟩ := Deep.choose_lt each
    have hcap : cap ≤ 9223372036854775807 := by unfold maxLen at hm; omega
    refine ⟨⟨some a, n, cap⟩, (List.range n).map f, rfl, ⟨some a, cap, by simp, (by intro h; cases h), by simpa using hl, hcap, ?_⟩, ?_, ?_⟩
    · by_cases hn : n = 0
      · subst hn; exact .inl rfl
      · have h0 : w.cell? ((a.add (0 * 5)).add 0) = some (.string (f 0).ky) := (hf 0 (by omega)).2 0 (by decide)
        have h0' : w.cell? (a.add 0) = some (.string (f 0).ky) := by
          have e : (a.add (0 * 5)).add 0 = a.add 0 := by simp [Addr.add]
          rw [← e]; exact h0
        obtain ⟨b, off, rfl⟩ := spot_none h0'
        refine .inr ⟨b, off, rfl, fun t u hu => ?_⟩
        have hlt : t < n * 5 := by
          have := (List.getElem?_eq_some_iff.1 hu).1
          rw [cellsY_len] at this; simpa using this
        have hdv : t / 5 < n := by omega
        have h3 : t % 5 < 5 := Nat.mod_lt _ (by omega)
        have hc := (hf (t / 5) hdv).2 (t % 5) h3
        rw [addr_addY, addr_addY, Nat.add_assoc, show t / 5 * 5 + t % 5 = t from by omega] at hc
        rw [hc]
        obtain ⟨a0, a1, a2, a3, a4⟩ := cellsY_get ((List.range n).map f) (t / 5) (by simpa using hdv)
        simp only [List.getElem_map, List.getElem_range] at a0 a1 a2 a3 a4
        have hm2 : t = t / 5 * 5 + t % 5 := by omega
        rw [hm2] at hu
        generalize t / 5 = q at *
        generalize t % 5 = r at *
        rcases (by omega : r = 0 ∨ r = 1 ∨ r = 2 ∨ r = 3 ∨ r = 4) with rfl | rfl | rfl | rfl | rfl
        · rw [Nat.add_zero, a0] at hu; exact hu
        · rw [a1] at hu; exact hu
        · rw [a2] at hu; exact hu
        · rw [a3] at hu; exact hu
        · rw [a4] at hu; exact hu
    · intro y hy
      obtain ⟨i, hi, rfl⟩ := List.mem_map.1 hy
      exact (hf i (List.mem_range.1 hi)).1.1
    · have e1 : x.1 = .slice ((List.range n).map D) ((List.range (m - n)).map fun j => D (n + j)) := by rw [hx]
      rw [e1]
      have h1 := bulk_slice ((List.range n).map D) ((List.range (m - n)).map fun j => D (n + j))
      rw [List.map_map] at h1
      have h2 : ((List.range n).map (fun i => 3 + wtm (f i))).sum ≤ ((List.range n).map (Rows.uptoBulk ∘ D)).sum := sum_range_le fun i hi => by have := (hf i hi).1.2; show _ ≤ Rows.uptoBulk (D i); omega
      have h3 : ((List.range n).map (fun i => 3 + wtm (f i))).sum = 3 * n + (((List.range n).map f).map wtm).sum := by
        rw [List.map_map]
        generalize hR : List.range n = R
        have e : n = R.length := by rw [← hR]; simp
        rw [e]
        clear hR e
        induction R with
        | nil => rfl
        | cons i R ih => simp only [List.map_cons, List.sum_cons, List.length_cons, ih, Function.comp]; omega
      rw [List.length_map, List.length_range]
      show 3 * n + (((List.range n).map f).map wtm).sum + 1 ≤ _
      omega
theorem run_of {fuel : Nat} {cs : List Value} {x : DataW H × List MemPlace} (h : DataW.trod enc Tryz.prog w 0 (fun _ => true) held fuel 48 cs = some x) :
    ∃ (r : Rw) (y : Rn), cs = cellW r ∧ MtR w r y ∧ (y.v.fits ∧ ∀ m ∈ y.ml, m.v.fits) ∧ wtx y ≤ Rows.uptoBulk x.1 := by
  obtain ⟨xs, n, _, hx, hl, hxl, hf⟩ := DataW.trod_struct Tryz.underlying48 h
  rw [cellsOfW] at hl
  match xs, hxl, cs, hl with
  | [y0, y1, y2, y3], _, [v0, v1, v2, v3, v4, v5, v6], _ =>
    have g0 : DataW.trod enc Tryz.prog w 0 (fun _ => true) held n 9 [v0] = some y0 := hf 0 _ rfl
    have g1 : DataW.trod enc Tryz.prog w 0 (fun _ => true) held n 4 [v1] = some y1 := hf 1 _ rfl
    have g2 : DataW.trod enc Tryz.prog w 0 (fun _ => true) held n 43 [v2, v3, v4, v5] = some y2 := hf 2 _ rfl
    have g3 : DataW.trod enc Tryz.prog w 0 (fun _ => true) held n 46 [v6] = some y3 := hf 3 _ rfl
    obtain ⟨s, rfl, _, q0⟩ := str_of g0
    obtain ⟨b, rfl⟩ := bool_of g1
    obtain ⟨v, rfl, rfl, rfl, rfl, hv, q2⟩ := val_of g2
    obtain ⟨sw, l, rfl, hs, hlf, q3⟩ := marks_of g3
    refine ⟨⟨s, b, v.k, v.n, v.f, v.s, sw⟩, ⟨s, b, v, l⟩, rfl, ⟨rfl, rfl, rfl, hs⟩, ⟨hv, hlf⟩, ?_⟩
    rw [hx]
    simp only [Rows.uptoBulk, Rows.uptoBulkAll, List.map_cons, List.map_nil]
    show 1 + s.size + v.s.size + 3 * l.length + (l.map wtm).sum ≤ _
    omega
theorem runs_of {fuel : Nat} {v : Value} {x : DataW H × List MemPlace} (h : DataW.trod enc Tryz.prog w 0 (fun _ => true) held fuel 22 [v] = some x) :
    ∃ L : List Rn, SlRn w v L ∧ (∀ y ∈ L, y.v.fits ∧ ∀ m ∈ y.ml, m.v.fits) ∧ wtL L + 1 ≤ Rows.uptoBulk x.1 := by
  rcases Deep.open_slice Tryz.underlying22 h with ⟨hcs, hx⟩ | ⟨a, n, cap, m, k, D, Pl, hcs, _, hl, hm, hmm, hx, hel⟩
  · simp only [List.cons.injEq, and_true] at hcs
    subst hcs
    refine ⟨[], SlRn.nil w, (by intro x hx; cases hx), ?_⟩
    rw [hx]; simp [Rows.uptoBulk, wtL]
  · simp only [List.cons.injEq, and_true] at hcs
    subst hcs
    simp only [if_true] at hmm
    have each : ∀ i, i < n → ∃ p : Rw × Rn, (MtR w p.1 p.2 ∧ (p.2.v.fits ∧ ∀ m ∈ p.2.ml, m.v.fits) ∧ wtx p.2 ≤ Rows.uptoBulk (D i)) ∧ ∀ j, j < 7 → w.cell? ((a.add (i * 7)).add j) = (cellW p.1)[j]? := by
      intro i hi
      obtain ⟨cs', h1, h2⟩ := hel i (by omega)
      rw [cellsOfW] at h1
      obtain ⟨_, _, hc⟩ := World.cells?_some h1
      obtain ⟨r, y, hs, hm, hok, hb⟩ := run_of h2
      exact ⟨(r, y), ⟨hm, hok, hb⟩, fun j hj => by rw [hc j hj, hs]⟩
    haveI : Inhabited Rn := ⟨⟨⟨#[]⟩, false, vz, []⟩⟩
    obtain ⟨f, hf⟩ := Deep.choose_lt each
    have hcap : cap ≤ 9223372036854775807 := by unfold maxLen at hm; omega
    refine ⟨(List.range n).map fun i => (f i).2, ⟨(List.range n).map fun i => (f i).1, ⟨some a, cap, by simp, (by intro h; cases h), by simpa using hl, hcap, ?_⟩, ?_⟩, ?_, ?_⟩
    · by_cases hn : n = 0
      · subst hn; exact .inl rfl
      · have h0 : w.cell? ((a.add (0 * 7)).add 0) = some (.string (f 0).1.tx) := (hf 0 (by omega)).2 0 (by decide)
        have h0' : w.cell? (a.add 0) = some (.string (f 0).1.tx) := by
          have e : (a.add (0 * 7)).add 0 = a.add 0 := by simp [Addr.add]
          rw [← e]; exact h0
        obtain ⟨b, off, rfl⟩ := spot_none h0'
        refine .inr ⟨b, off, rfl, fun t u hu => ?_⟩
        have hlt : t < n * 7 := by
          have := (List.getElem?_eq_some_iff.1 hu).1
          rw [cellsW_len] at this; simpa using this
        have hdv : t / 7 < n := by omega
        have h3 : t % 7 < 7 := Nat.mod_lt _ (by omega)
        have hc := (hf (t / 7) hdv).2 (t % 7) h3
        rw [addr_addW, addr_addW, Nat.add_assoc, show t / 7 * 7 + t % 7 = t from by omega] at hc
        rw [hc]
        obtain ⟨a0, a1, a2, a3, a4, a5, a6⟩ := cellsW_get ((List.range n).map fun i => (f i).1) (t / 7) (by simpa using hdv)
        simp only [List.getElem_map, List.getElem_range] at a0 a1 a2 a3 a4 a5 a6
        have hm2 : t = t / 7 * 7 + t % 7 := by omega
        rw [hm2] at hu
        generalize t / 7 = q at *
        generalize t % 7 = r at *
        rcases (by omega : r = 0 ∨ r = 1 ∨ r = 2 ∨ r = 3 ∨ r = 4 ∨ r = 5 ∨ r = 6) with rfl | rfl | rfl | rfl | rfl | rfl | rfl
        · rw [Nat.add_zero, a0] at hu; exact hu
        · rw [a1] at hu; exact hu
        · rw [a2] at hu; exact hu
        · rw [a3] at hu; exact hu
        · rw [a4] at hu; exact hu
        · rw [a5] at hu; exact hu
        · rw [a6] at hu; exact hu
    · have key : ∀ R : List Nat, (∀ i ∈ R, i < n) → AllMt w (R.map fun i => (f i).1) (R.map fun i => (f i).2) := fun R hR => by
        induction R with
        | nil => trivial
        | cons i R ih => exact ⟨(hf i (hR i (by simp))).1.1, ih fun j hj => hR j (List.mem_cons_of_mem _ hj)⟩
      exact key _ fun i hi => List.mem_range.1 hi
    · intro y hy
      obtain ⟨i, hi, rfl⟩ := List.mem_map.1 hy
      exact (hf i (List.mem_range.1 hi)).1.2.1
    · have e1 : x.1 = .slice ((List.range n).map D) ((List.range (m - n)).map fun j => D (n + j)) := by rw [hx]
      rw [e1]
      have h1 := bulk_slice ((List.range n).map D) ((List.range (m - n)).map fun j => D (n + j))
      rw [List.map_map] at h1
      have h2 : ((List.range n).map (fun i => wtx (f i).2)).sum ≤ ((List.range n).map (Rows.uptoBulk ∘ D)).sum := sum_range_le fun i hi => (hf i hi).1.2.2
      unfold wtL
      rw [List.map_map]
      show ((List.range n).map (fun i => wtx (f i).2)).sum + 1 ≤ _
      omega
end
end Go.Proofs.YtijkekkjiboomaaGreatDoor
