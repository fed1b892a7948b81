/- quirelaw11.known. -/
import Derived.Test.YtnilikomoapcaaaGreatMkH
import Derived.Test.YtnilikomoapcaaaGreatPart31
import Derived.Test.YtnilikomoapcaaaGreatPart30
import Derived.Deep.RegionHeld3
import Derived.Deep.MidRow
namespace Go.Proofs.YtnilikomoapcaaaGreat
open Go.RowKit
set_option linter.unusedVariables false
set_option linter.unusedSimpArgs false
set_option maxRecDepth 100000

abbrev kU : Un := ⟨1, 1, 0, 0, 0, 0⟩
def kS : SS := SS.new.run kU 3
abbrev kA : O := ⟨5, 1, 3, 1, 0, 0, 0, 0, ⟨#[]⟩, 2, 1, 0, ⟨#[]⟩, ⟨#[98, 111, 108, 100]⟩, 0, 0, 0, 0, false, 1, 2, true⟩
abbrev kB : O := ⟨5, 2, 3, 2, 0, 0, 0, 0, ⟨#[]⟩, 0, 0, 0, ⟨#[]⟩, ⟨#[98, 111, 108, 100]⟩, 0, 0, 1, 2, false, 0, 0, true⟩
abbrev kM : Mk := ⟨⟨#[98, 111, 108, 100]⟩, 2, 1, 0, ⟨#[]⟩⟩
theorem k_ok : kU.ok := by constructor <;> decide
theorem k_may : SS.new.may kU 3 = true := by decide
theorem k_units : kS.units.length = 3 := by decide
theorem k_f2 : kS.find 1 2 = 1 := by decide
theorem k_gap : gapM kS 1 2 true = (2, true) := by unfold gapM; rw [k_f2]; rfl
theorem k_gap0 : gapM kS 1 2 false = (1, true) := by unfold gapM; rw [k_f2]; rfl
theorem k_gapE : gapM kS 0 0 true = (3, true) := by unfold gapM; rw [k_units]; rfl
theorem k_gapA : gapM kS 0 0 false = (0, true) := rfl
theorem k_overA : overM kS kA = (0, 2) := by unfold overM; rw [k_gap, k_gapA]; rfl
theorem k_overB : overM kS kB = (1, 3) := by unfold overM; rw [k_gap0, k_gapE]; rfl
theorem k_spans : spansM kS [kA, kB] = [⟨0, 2, kA⟩, ⟨1, 3, kB⟩] := by
  unfold spansM
  have h1 : spanM kS kA = some ⟨0, 2, kA⟩ := by unfold spanM; rw [k_overA]; rfl
  have h2 : spanM kS kB = some ⟨1, 3, kB⟩ := by unfold spanM; rw [k_overB]; rfl
  rw [List.filterMap_cons_some h1, List.filterMap_cons_some h2, List.filterMap_nil]
theorem k_at0 : atM kS [kA, kB] 0 = [kM] := by unfold atM; rw [k_spans]; kernel_rfl
theorem k_at1 : atM kS [kA, kB] 1 = [] := by unfold atM; rw [k_spans]; kernel_rfl
theorem k_less : lessM kA kB = true := by decide
theorem k_same : sameL [kM] [kM] = true := by kernel_rfl
theorem k_unlike : sameL [kM] [] = false := by kernel_rfl
theorem build_two (x y : O) (W : World) : (Instr.buildSlice 41 2 #[(0, x.val), (1, y.val)]).run Tryz.prog W = .ok (.slice (some ⟨W.heap.size, 0, none⟩) 2 2) (W.alloc (.cells (x.vals ++ y.vals) 39)) := by kernel_rfl
theorem two_at {W : World} {g : Nat} {x y : O} (h : W.heap[g]? = some (.cells (x.vals ++ y.vals) 39 (0, 0))) : W.rangeAt g 0 x.vals.toList ∧ W.rangeAt g 22 y.vals.toList := by
  have e : (x.vals ++ y.vals).toList = x.vals.toList ++ y.vals.toList := by simp
  have hl : x.vals.toList.length = 22 := rfl
  constructor
  · intro j v hv
    rw [Nat.zero_add, cell_of_block (i := j) h, ← Array.getElem?_toList, e]
    have hj := List.getElem?_eq_some_iff.1 hv
    obtain ⟨hj, -⟩ := hj
    rw [List.getElem?_append_left hj]
    exact hv
  · intro j v hv
    rw [cell_of_block (i := 22 + j) h, ← Array.getElem?_toList, e, List.getElem?_append_right (by omega), hl, Nat.add_sub_cancel_left]
    exact hv
theorem k_fits : kA.fits ∧ kB.fits := by
  constructor <;> constructor <;> decide
/-- What lies there, once known's list is made. -/
structure KnW (w W : World) (p : Nat) (B : Bk) (m g : Nat) : Prop where
  q : Sq1 w W p B kS
  t : Touch (fun _ => False) w W
  box : W.heap[m]? = some (idO 1 2)
  ops : W.heap[g]? = some (.cells (kA.vals ++ kB.vals) 39 (0, 0))
theorem KnW.keep {w W W' : World} {p m g : Nat} {B : Bk} (h : KnW w W p B m g) (t : Touch (fun _ => False) W W') : KnW w W' p B m g := ⟨h.q.touch t, h.t.trans t, heap_keep t h.box, heap_keep t h.ops⟩
theorem KnW.at {w W : World} {p m g : Nat} {B : Bk} (h : KnW w W p B m g) (place : Int) (ms : List Mk) (hm : atM kS [kA, kB] place = ms) :
    Calls Tryz.prog 17 #[.pointer (some ⟨p, 0, none⟩), .slice (some ⟨g, 0, none⟩) 2 2, .int .i64 place] W fun e w' => ∃ v, e = .returned v ∧ NewY W w' v ms := by
  have h0 := marksAt_any (w := W) (p := p) (g := g) (q := 0) (cap := 2) (S := kS) (l := [kA, kB]) (R := fun k => B.has k ∨ k = g) (fun k hk => by
    rcases hk with hk | rfl
    · exact h.q.mem.lt hk
    · exact lt_of_heap h.ops) (fun wr t => h.q.rdR (by rw [k_units]; omega) (fun k hk => .inl hk) t) (.inr rfl) (by simp) (by simp [maxLen]) (fun i hi => by
    have hi' : i < 2 := hi
    have : i = 0 ∨ i = 1 := by omega
    rcases this with rfl | rfl
    · exact (two_at h.ops).1
    · exact (two_at h.ops).2) (fun o ho => by
    simp only [List.mem_cons, List.not_mem_nil, or_false] at ho
    rcases ho with rfl | rfl
    · exact k_fits.1
    · exact k_fits.2) (fun o ho => by
    simp only [List.mem_cons, List.not_mem_nil, or_false] at ho
    rcases ho with rfl | rfl <;> decide) (by simp) place
  rw [hm] at h0
  exact h0
set_option maxHeartbeats 16000000 in
theorem known_any (w : World) : Calls Tryz.prog 5 #[] w fun e w' => e = .returned (.bool true) ∧ Touch (fun _ => False) w w' := by
  go_enter Tryz.func5, Tryz.ntmps5
  go_wp2_with fail
  refine (Sq1.fresh w w (Touch.refl _ _)).mono ?_
  rintro e W1 ⟨p, B, rfl, h1, h2, t1⟩
  have HR1 : Hid (Calls Tryz.prog 9 #[.pointer (some ⟨p, 0, none⟩), .agg #[.int .u64 1, .int .u64 1, .int .u64 0, .int .u64 0, .int .u64 0, .int .u64 0], .int .i64 3] W1 fun e w' => e = .returned (.bool true) ∧ ∃ B', Sq1 w w' p B' kS ∧ Touch (fun _ => False) w w') := by
    have := h1.runN kU k_ok 3 (by omega) Size.new (by omega)
    rw [k_may] at this
    refine this.mono ?_
    rintro e w' ⟨rfl, B', a, c, d⟩
    exact ⟨rfl, B', a, h1.touch0 t1 d⟩
  clear h1 h2 t1
  go_wp2_with fail
  refine HR1.out.mono ?_
  rintro e W2 ⟨rfl, B2, hq2, ht2⟩
  have HQ2 : Hid (Sq1 w W2 p B2 kS ∧ Touch (fun _ => False) w W2) := ⟨hq2, ht2⟩
  clear HR1 hq2 ht2
  go_upto_region 5 with fail
  obtain ⟨W3, hW3⟩ : ∃ W, Hid (W = W2.alloc (idO 1 2)) := ⟨_, Eq.refl _⟩
  obtain ⟨m, hm⟩ : ∃ m, Hid (m = W2.heap.size) := ⟨_, Eq.refl _⟩
  have HY0 : Hid (Sq1 w W3.drew p B2 kS ∧ Touch (fun _ => False) w W3.drew ∧ W3.drew.heap[m]? = some (idO 1 2)) := by
    rw [hW3.out, hm.out]
    have t : Touch (fun _ => False) W2 (W2.alloc (idO 1 2)).drew := ((Touch.refl _ _).alloc _).drew
    exact ⟨HQ2.out.1.touch t, HQ2.out.2.trans t, heap_alloc_new W2 (idO 1 2)⟩
  rw [← hW3.out, ← hm.out]
  clear hW3 hm HQ2
  obtain ⟨lA, hlA⟩ : ∃ l, Hid (l = kA.vals.toList) := ⟨_, Eq.refl _⟩
  obtain ⟨lB, hlB⟩ : ∃ l, Hid (l = kB.vals.toList) := ⟨_, Eq.refl _⟩
  have HvA : Hid (Value.agg lA.toArray = kA.val) := by rw [hlA.out]; exact Eq.refl _
  have HvB : Hid (Value.agg lB.toArray = kB.val) := by rw [hlB.out]; exact Eq.refl _
  have HsA : Hid ((Tryz.prog.info? 39).map (·.size) = some lA.length ∧ (Tryz.prog.info? 39).map (·.size) = some lB.length) := by rw [hlA.out, hlB.out]; exact ⟨by kernel_rfl, by kernel_rfl⟩
  have HtA : Hid (∀ W g, KnW w W p B2 m g → W.rangeAt g 0 lA ∧ W.rangeAt g 22 lB) := fun W g h => by rw [hlA.out, hlB.out]; exact two_at h.ops
  have HM : Hid (∀ W, Calls Tryz.prog 10 #[.int .u64 1, .int .u64 1, .string ⟨#[98, 111, 108, 100]⟩, .int .i64 1, .agg #[.int .u64 0, .int .u64 0, .bool false], .agg #[.int .u64 1, .int .u64 2, .bool true]] W fun e w' => e = .returned kA.val ∧ Touch (fun _ => False) W w') := fun W => mark_any 1 1 ⟨#[98, 111, 108, 100]⟩ 1 0 0 false 1 2 true W
  have hbs := build_two kA kB
  clear hlA hlB
  refine wp_region_held_drew (S := fun W' => W'.heap[m]? = some (idO 1 2)) (by kernel_rfl) HY0.out.2.2 (fun hHeld => ?_)
  refine wpAnyH_take (i := 0) (oi := { dst := some 21, op := Go.Op.build 37 #[], type := 37, pos := "law.go:49", after := #[], guard := none }) (v := .agg #[.int .u64 0, .int .u64 0, .bool false]) rfl (by kernel_rfl) (by kernel_rfl) (by kernel_rfl) (fun _ _ _ h => h) (Or.inl ⟨by rfl, ?_⟩) hHeld ?_
  · intro w hSw; clear hSw; go_simp
  simp only [Act.put, List.setIfInBounds_toArray]
  refine wpAnyH_take (i := 1) (oi := { dst := some 22, op := Go.Op.load 28 (Go.Operand.tmp 2), type := 28, pos := "law.go:49", after := #[], guard := none }) (v := .agg #[.int .u64 1, .int .u64 2]) rfl (by kernel_rfl) (by kernel_rfl) (by kernel_rfl) (fun _ _ _ h => h) (Or.inl ⟨by rfl, ?_⟩) hHeld ?_
  · intro w hSw; obtain ⟨q0, q1⟩ := idO_cells hSw; clear hSw; go_simp
  simp only [Act.put, List.setIfInBounds_toArray]
  refine wpAnyH_take (i := 4) (oi := { dst := some 25, op := Go.Op.build 28 #[(0, Go.Operand.const (Go.Value.int Go.IntKind.u64 5)), (1, Go.Operand.const (Go.Value.int Go.IntKind.u64 2))], type := 28, pos := "law.go:49", after := #[], guard := none }) (v := .agg #[.int .u64 5, .int .u64 2]) rfl (by kernel_rfl) (by kernel_rfl) (by kernel_rfl) (fun _ _ _ h => h) (Or.inl ⟨by rfl, ?_⟩) hHeld ?_
  · intro w hSw; clear hSw; go_simp
  simp only [Act.put, List.setIfInBounds_toArray]
  refine wpAnyH_take (i := 5) (oi := { dst := some 26, op := Go.Op.load 28 (Go.Operand.tmp 2), type := 28, pos := "law.go:49", after := #[], guard := none }) (v := .agg #[.int .u64 1, .int .u64 2]) rfl (by kernel_rfl) (by kernel_rfl) (by kernel_rfl) (fun _ _ _ h => h) (Or.inl ⟨by rfl, ?_⟩) hHeld ?_
  · intro w hSw; obtain ⟨q0, q1⟩ := idO_cells hSw; clear hSw; go_simp
  simp only [Act.put, List.setIfInBounds_toArray]
  refine wpAnyH_take (i := 7) (oi := { dst := some 28, op := Go.Op.build 37 #[(1, Go.Operand.const (Go.Value.bool true))], type := 37, pos := "law.go:49", after := #[], guard := none }) (v := .agg #[.int .u64 0, .int .u64 0, .bool true]) rfl (by kernel_rfl) (by kernel_rfl) (by kernel_rfl) (fun _ _ _ h => h) (Or.inl ⟨by rfl, ?_⟩) hHeld ?_
  · intro w hSw; clear hSw; go_simp
  simp only [Act.put, List.setIfInBounds_toArray]
  refine wpAnyH_take (i := 2) (oi := { dst := some 23, op := Go.Op.build 37 #[(0, Go.Operand.tmp 22), (1, Go.Operand.const (Go.Value.bool true))], type := 37, pos := "law.go:49", after := #[{ on := 1, ground := Go.Ground.data }], guard := none }) (v := .agg #[.int .u64 1, .int .u64 2, .bool true]) rfl (by kernel_rfl) (by kernel_rfl) (by kernel_rfl) (fun _ _ _ h => h) (Or.inl ⟨by rfl, ?_⟩) hHeld ?_
  · intro w hSw; clear hSw; go_simp
  simp only [Act.put, List.setIfInBounds_toArray]
  refine wpAnyH_take (i := 6) (oi := { dst := some 27, op := Go.Op.build 37 #[(0, Go.Operand.tmp 26)], type := 37, pos := "law.go:49", after := #[{ on := 5, ground := Go.Ground.data }], guard := none }) (v := .agg #[.int .u64 1, .int .u64 2, .bool false]) rfl (by kernel_rfl) (by kernel_rfl) (by kernel_rfl) (fun _ _ _ h => h) (Or.inl ⟨by rfl, ?_⟩) hHeld ?_
  · intro w hSw; clear hSw; go_simp
  simp only [Act.put, List.setIfInBounds_toArray]
  refine wpAnyH_take (i := 8) (oi := { dst := some 29, op := Go.Op.build 39 #[(0, Go.Operand.tmp 25), (1, Go.Operand.const (Go.Value.int Go.IntKind.i64 3)), (2, Go.Operand.const (Go.Value.int Go.IntKind.u64 2)), (7, Go.Operand.const (Go.Value.string { data := #[98, 111, 108, 100] })), (9, Go.Operand.tmp 27), (10, Go.Operand.tmp 28)], type := 39, pos := "law.go:49", after := #[{ on := 4, ground := Go.Ground.data }, { on := 6, ground := Go.Ground.data }, { on := 7, ground := Go.Ground.data }], guard := none }) (v := kB.val) rfl (by kernel_rfl) (by kernel_rfl) (by kernel_rfl) (fun _ _ _ h => h) (Or.inl ⟨by rfl, ?_⟩) hHeld ?_
  · intro w hSw; clear hSw; go_simp
  simp only [Act.put, List.setIfInBounds_toArray]
  refine wpAnyH_ready (rs := [3]) (by kernel_rfl) (by simp) ?_
  refine AllReadyH.cons (o := { dst := some 24, op := Go.Op.call { callee := Go.Callee.value (Go.Operand.func 10), args := #[Go.Operand.const (Go.Value.int Go.IntKind.u64 1), Go.Operand.const (Go.Value.int Go.IntKind.u64 1), Go.Operand.const (Go.Value.string { data := #[98, 111, 108, 100] }), Go.Operand.const (Go.Value.int Go.IntKind.i64 1), Go.Operand.tmp 21, Go.Operand.tmp 23], argTypes := #[26, 26, 9, 2, 37, 37] }, type := 39, pos := "law.go:49", after := #[{ on := 0, ground := Go.Ground.data }, { on := 2, ground := Go.Ground.data }], guard := none }) rfl (fun K hK => ?_) AllReadyH.nil
  go_simp
  refine (HM.out _).mono ?_
  rintro e Y1 ⟨rfl, t⟩
  have HY1 : Hid (Sq1 w Y1 p B2 kS ∧ Touch (fun _ => False) w Y1 ∧ Y1.heap[m]? = some (idO 1 2)) := ⟨HY0.out.1.touch t, HY0.out.2.1.trans t, heap_keep t HY0.out.2.2⟩
  have hS2 : Y1.heap[m]? = some (idO 1 2) := HY1.out.2.2
  clear t HY0 HM
  refine hK.out _ _ hS2 (fun hHeld => ?_)
  clear hK K hS2
  refine wpAnyH_ready (rs := [9]) (by kernel_rfl) (by simp) ?_
  refine AllReadyH.cons (o := { dst := some 30, op := Go.Op.buildSlice 41 2 #[(0, Go.Operand.tmp 24), (1, Go.Operand.tmp 29)], type := 41, pos := "law.go:49", after := #[{ on := 3, ground := Go.Ground.data }, { on := 8, ground := Go.Ground.data }], guard := none }) rfl (fun K hK => ?_) AllReadyH.nil
  go_simp
  have hS2 : (Y1.alloc (.cells (kA.vals ++ kB.vals) 39)).heap[m]? = some (idO 1 2) := heap_keep ((Touch.refl _ _).alloc _) HY1.out.2.2
  refine hK.out _ _ hS2 (fun hHeld => ?_)
  clear hK K hS2
  refine wpAnyH_take (i := 10) (oi := { dst := some 3, op := Go.Op.assign (Go.Operand.tmp 30), type := 41, pos := "law.go:49", after := #[{ on := 9, ground := Go.Ground.data }, { on := 3, ground := Go.Ground.chain }, { on := 0, ground := Go.Ground.phase }, { on := 1, ground := Go.Ground.phase }, { on := 2, ground := Go.Ground.phase }, { on := 3, ground := Go.Ground.phase }, { on := 4, ground := Go.Ground.phase }, { on := 5, ground := Go.Ground.phase }, { on := 6, ground := Go.Ground.phase }, { on := 7, ground := Go.Ground.phase }, { on := 8, ground := Go.Ground.phase }, { on := 9, ground := Go.Ground.phase }], guard := none }) (v := .slice (some ⟨Y1.heap.size, 0, none⟩) 2 2) rfl (by kernel_rfl) (by kernel_rfl) (by kernel_rfl) (fun _ _ _ h => h) (Or.inl ⟨by rfl, ?_⟩) hHeld ?_
  · intro w hSw; clear hSw; go_simp
  simp only [Act.put, List.setIfInBounds_toArray]
  refine wpAnyH_done (by kernel_rfl) ?_ _
  try simp only [List.getElem_toArray, List.getElem_cons_succ, List.getElem_cons_zero, List.setIfInBounds_toArray, List.set_cons_succ, List.set_cons_zero]
  clear hHeld hbs
  obtain ⟨W5, hW5⟩ : ∃ W, Hid (W = Y1.alloc (.cells #[.int .u64 5, .int .u64 1, .int .i64 3, .int .u64 1, .int .u64 0, .int .u64 0, .int .u64 0, .int .u64 0, .string ⟨#[]⟩, .int .i64 2, .int .i64 1, .float .f64 0, .string ⟨#[]⟩, .string ⟨#[98, 111, 108, 100]⟩, .int .u64 0, .int .u64 0, .int .u64 0, .int .u64 0, .bool false, .int .u64 1, .int .u64 2, .bool true, .int .u64 5, .int .u64 2, .int .i64 3, .int .u64 2, .int .u64 0, .int .u64 0, .int .u64 0, .int .u64 0, .string ⟨#[]⟩, .int .i64 0, .int .i64 0, .float .f64 0, .string ⟨#[]⟩, .string ⟨#[98, 111, 108, 100]⟩, .int .u64 0, .int .u64 0, .int .u64 1, .int .u64 2, .bool false, .int .u64 0, .int .u64 0, .bool true] 39)) := ⟨_, Eq.refl _⟩
  obtain ⟨g, hg⟩ : ∃ g, Hid (g = Y1.heap.size) := ⟨_, Eq.refl _⟩
  have HW5 : Hid (KnW w W5 p B2 m g) := by
    have e : (#[.int .u64 5, .int .u64 1, .int .i64 3, .int .u64 1, .int .u64 0, .int .u64 0, .int .u64 0, .int .u64 0, .string ⟨#[]⟩, .int .i64 2, .int .i64 1, .float .f64 0, .string ⟨#[]⟩, .string ⟨#[98, 111, 108, 100]⟩, .int .u64 0, .int .u64 0, .int .u64 0, .int .u64 0, .bool false, .int .u64 1, .int .u64 2, .bool true, .int .u64 5, .int .u64 2, .int .i64 3, .int .u64 2, .int .u64 0, .int .u64 0, .int .u64 0, .int .u64 0, .string ⟨#[]⟩, .int .i64 0, .int .i64 0, .float .f64 0, .string ⟨#[]⟩, .string ⟨#[98, 111, 108, 100]⟩, .int .u64 0, .int .u64 0, .int .u64 1, .int .u64 2, .bool false, .int .u64 0, .int .u64 0, .bool true] : Array Value) = kA.vals ++ kB.vals := by kernel_rfl
    rw [hW5.out, hg.out, e]
    have t : Touch (fun _ => False) Y1 (Y1.alloc (.cells (kA.vals ++ kB.vals) 39)) := (Touch.refl _ _).alloc _
    exact ⟨HY1.out.1.touch t, HY1.out.2.1.trans t, heap_keep t HY1.out.2.2, heap_alloc_new Y1 _⟩
  rw [← hW5.out, ← hg.out]
  clear hW5 hg HY1
  obtain ⟨vA, hvA⟩ : ∃ v, Hid (v = kA.val) := ⟨_, Eq.refl _⟩
  obtain ⟨vB, hvB⟩ : ∃ v, Hid (v = kB.val) := ⟨_, Eq.refl _⟩
  rw [← hvA.out, ← hvB.out]
  clear hvA hvB
  go_wp2_with fail
  refine (HW5.out.at 0 [kM] k_at0).mono ?_
  rintro e W6 ⟨v1, rfl, n1⟩
  have HW6 : Hid (KnW w W6 p B2 m g) := HW5.out.keep n1.touch
  have HX6 : Hid (SlY W6 v1 [kM]) := n1.sl
  clear n1 HW5
  obtain ⟨gx, xo, xc, rfl, -⟩ := HX6.out.row (by simp)
  simp only [List.length_singleton] at HX6 ⊢
  go_wp2_with fail
  refine (HW6.out.at 1 [] k_at1).mono ?_
  rintro e W7 ⟨v2, rfl, n2⟩
  have HW7 : Hid (KnW w W7 p B2 m g) := HW6.out.keep n2.touch
  have HX7 : Hid (SlY W7 (.slice (some ⟨gx, xo, none⟩) 1 xc) [kM] ∧ SlY W7 v2 []) := ⟨HX6.out.touch n2.touch, n2.sl⟩
  clear n2 HW6 HX6
  obtain ⟨yo, yc, rfl, -⟩ := HX7.out.2.shape
  simp only [List.length_nil] at HX7 ⊢
  have HGp : Hid (∀ W, Touch (fun _ => False) W7 W → Calls Tryz.prog 18 #[.pointer (some ⟨p, 0, none⟩), .agg #[.int .u64 1, .int .u64 2, .bool true]] W fun e w' => e = .returned (.tuple #[.int .i64 2, .bool true]) ∧ Touch (fun _ => False) W w') := fun W t => by
    have := gap_any ((HW7.out.q.touch t).rd (by rw [k_units]; omega)) 1 2 true (by omega) (by omega)
    rw [k_gap] at this
    exact this
  have HOv : Hid (∀ W, Touch (fun _ => False) W7 W → Calls Tryz.prog 19 #[.pointer (some ⟨p, 0, none⟩), .agg lB.toArray] W fun e w' => e = .returned (.tuple #[.int .i64 1, .int .i64 3]) ∧ Touch (fun _ => False) W w') := fun W t => by
    have := over_any ((HW7.out.q.touch t).rd (by rw [k_units]; omega)) kB k_fits.2
    rw [k_overB] at this
    rw [HvB.out]
    exact this
  have HL : Hid (∀ W, Calls Tryz.prog 20 #[.agg lA.toArray, .agg lB.toArray] W fun e w' => e = .returned (.bool true) ∧ Touch (fun _ => False) W w') := fun W => by
    have := mless_any kA kB W
    rw [k_less] at this
    rw [HvA.out, HvB.out]
    exact this
  obtain ⟨q0, q1⟩ := idO_cells HW7.out.box
  go_wp2_with fail
  refine (HGp.out _ (Touch.refl _ _)).mono ?_
  rintro e W8 ⟨rfl, t8⟩
  have HW8 : Hid (KnW w W8 p B2 m g) := HW7.out.keep t8
  have HX8 : Hid (SlY W8 (.slice (some ⟨gx, xo, none⟩) 1 xc) [kM] ∧ SlY W8 (.slice yo 0 yc) []) := ⟨HX7.out.1.touch t8, HX7.out.2.touch t8⟩
  have HT8 : Hid (Touch (fun _ => False) W7 W8) := t8
  clear t8 q0 q1 HW7 HX7 HGp
  go_upto_region 8 with fail
  refine wp_region_lit ?_
  refine wpList_plain rfl fun K hK => ?_
  go_simp
  refine hK _ _ ?_
  clear hK K
  refine wpList_plain rfl fun K hK => ?_
  go_simp
  refine hK _ _ ?_
  clear hK K
  refine wpList_plain rfl fun K hK => ?_
  go_simp
  refine hK _ _ ?_
  clear hK K
  refine wpList_load_mid rfl 39 (.tmp 47) rfl g 22 rfl lB _ (HtA.out _ _ HW8.out).2 Tryz.underlying39 rfl HsA.out.2 ?_
  simp only [Act.put, List.setIfInBounds_toArray, List.set_cons_succ, List.set_cons_zero]
  refine wpList_plain rfl fun K hK => ?_
  go_simp
  refine (HOv.out _ HT8.out).mono ?_
  rintro e W9 ⟨rfl, t9⟩
  have HW9 : Hid (KnW w W9 p B2 m g) := HW8.out.keep t9
  have HX9 : Hid (SlY W9 (.slice (some ⟨gx, xo, none⟩) 1 xc) [kM] ∧ SlY W9 (.slice yo 0 yc) []) := ⟨HX8.out.1.touch t9, HX8.out.2.touch t9⟩
  clear t9 HW8 HX8 HT8 HOv
  refine hK _ _ ?_
  clear hK K
  refine wpList_plain rfl fun K hK => ?_
  go_simp
  refine hK _ _ ?_
  clear hK K
  refine wpList_plain rfl fun K hK => ?_
  go_simp
  refine hK _ _ ?_
  clear hK K
  refine wpList_plain rfl fun K hK => ?_
  go_simp
  refine hK _ _ ?_
  clear hK K
  refine wpList_plain rfl fun K hK => ?_
  go_simp
  refine hK _ _ ?_
  clear hK K
  refine wpList_plain rfl fun K hK => ?_
  go_simp
  refine hK _ _ ?_
  clear hK K
  go_upto_region 9 with fail
  have HSx : Hid (∀ W, SlY W (.slice (some ⟨gx, xo, none⟩) 1 xc) [kM] → W.cell? ⟨gx, xo, none⟩ = some (.string ⟨#[98, 111, 108, 100]⟩) ∧ W.cell? ⟨gx, xo + 2, none⟩ = some (.int .i64 1)) := fun W h => by
    obtain ⟨b', o', c', e', -, -, -, hx⟩ := h.row (by simp)
    simp only [Value.slice.injEq, Option.some.injEq, Addr.mk.injEq] at e'
    obtain ⟨⟨rfl, rfl, -⟩, -⟩ := e'
    have := hx 0 (by simp)
    exact ⟨by simpa using this.1, by simpa using this.2.2.1⟩
  have HSm : Hid (∀ W, SlY W (.slice (some ⟨gx, xo, none⟩) 1 xc) [kM] → SlY W (.slice yo 0 yc) [] → Calls Tryz.prog 21 #[.slice (some ⟨gx, xo, none⟩) 1 xc, .slice yo 0 yc] W fun e w' => e = .returned (.bool false) ∧ Touch (fun _ => False) W w') := fun W h1 h2 => by
    have := msame_any h1 h2 (by simp) (by simp)
    rw [k_unlike] at this
    exact this
  have HSs : Hid (∀ W, SlY W (.slice (some ⟨gx, xo, none⟩) 1 xc) [kM] → Calls Tryz.prog 21 #[.slice (some ⟨gx, xo, none⟩) 1 xc, .slice (some ⟨gx, xo, none⟩) 1 xc] W fun e w' => e = .returned (.bool true) ∧ Touch (fun _ => False) W w') := fun W h1 => by
    have := msame_any h1 h1 (by simp) (by simp)
    rw [k_same] at this
    exact this
  have HZ0 : Hid (KnW w W9.drew p B2 m g ∧ SlY W9.drew (.slice (some ⟨gx, xo, none⟩) 1 xc) [kM] ∧ SlY W9.drew (.slice yo 0 yc) []) := ⟨HW9.out.keep (Touch.refl _ _).drew, HX9.out.1.touch (Touch.refl _ _).drew, HX9.out.2.touch (Touch.refl _ _).drew⟩
  have hS0 : (W9.drew.cell? ⟨gx, xo, none⟩ = some (.string ⟨#[98, 111, 108, 100]⟩) ∧ W9.drew.cell? ⟨gx, xo + 2, none⟩ = some (.int .i64 1)) ∧ W9.drew.rangeAt g 0 lA ∧ W9.drew.rangeAt g 22 lB := ⟨HSx.out _ HZ0.out.2.1, HtA.out _ _ HZ0.out.1⟩
  clear HW9 HX9
  refine wp_region_held_drew (S := fun W' => (W'.cell? ⟨gx, xo, none⟩ = some (.string ⟨#[98, 111, 108, 100]⟩) ∧ W'.cell? ⟨gx, xo + 2, none⟩ = some (.int .i64 1)) ∧ W'.rangeAt g 0 lA ∧ W'.rangeAt g 22 lB) (by kernel_rfl) hS0 (fun hHeld => ?_)
  clear hS0
  have sbe : ((⟨#[98, 111, 108, 100]⟩ : ByteArray).toList == (⟨#[98, 111, 108, 100]⟩ : ByteArray).toList) = true := beq_self_eq_true _
  refine wpAnyH_take (i := 0) (oi := { dst := some 52, op := Go.Op.move (Go.Operand.tmp 4), type := 45, pos := "law.go:53", after := #[], guard := none }) (v := .slice (some ⟨gx, xo, none⟩) 1 xc) rfl (by kernel_rfl) (by kernel_rfl) (by kernel_rfl) (fun _ _ _ h => h) (Or.inl ⟨by kernel_rfl, ?_⟩) hHeld ?_
  · intro w hSw; clear hSw; go_simp
  simp only [Act.put, List.setIfInBounds_toArray]
  refine wpAnyH_take (i := 1) (oi := { dst := some 53, op := Go.Op.call { callee := Go.Callee.builtin Go.Builtin.len, args := #[Go.Operand.tmp 52], argTypes := #[45] }, type := 3, pos := "law.go:53", after := #[{ on := 0, ground := Go.Ground.data }], guard := none }) (v := .int .i64 1) rfl (by kernel_rfl) (by kernel_rfl) (by kernel_rfl) (fun _ _ _ h => h) (Or.inl ⟨by kernel_rfl, ?_⟩) hHeld ?_
  · intro w hSw; clear hSw; go_simp
  simp only [Act.put, List.setIfInBounds_toArray]
  refine wpAnyH_take (i := 2) (oi := { dst := some 54, op := Go.Op.binOp Go.BinOp.eql 3 (Go.Operand.tmp 53) (Go.Operand.const (Go.Value.int Go.IntKind.i64 1)) 3, type := 4, pos := "law.go:53", after := #[{ on := 1, ground := Go.Ground.data }], guard := none }) (v := .bool true) rfl (by kernel_rfl) (by kernel_rfl) (by kernel_rfl) (fun _ _ _ h => h) (Or.inl ⟨by kernel_rfl, ?_⟩) hHeld ?_
  · intro w hSw; clear hSw; go_simp
  simp only [Act.put, List.setIfInBounds_toArray]
  refine wpAnyH_take (i := 3) (oi := { dst := some 55, op := Go.Op.move (Go.Operand.tmp 54), type := 4, pos := "law.go:53", after := #[{ on := 2, ground := Go.Ground.data }], guard := none }) (v := .bool true) rfl (by kernel_rfl) (by kernel_rfl) (by kernel_rfl) (fun _ _ _ h => h) (Or.inl ⟨by kernel_rfl, ?_⟩) hHeld ?_
  · intro w hSw; clear hSw; go_simp
  simp only [Act.put, List.setIfInBounds_toArray]
  refine wpAnyH_take (i := 4) (oi := { dst := some 56, op := Go.Op.move (Go.Operand.tmp 4), type := 45, pos := "law.go:53", after := #[{ on := 3, ground := Go.Ground.guard }], guard := some (3, true) }) (v := .slice (some ⟨gx, xo, none⟩) 1 xc) rfl (by kernel_rfl) (by kernel_rfl) (by kernel_rfl) (fun _ _ _ h => h) (Or.inl ⟨by kernel_rfl, ?_⟩) hHeld ?_
  · intro w hSw; clear hSw; go_simp
  simp only [Act.put, List.setIfInBounds_toArray]
  refine wpAnyH_take (i := 5) (oi := { dst := some 57, op := Go.Op.indexAddr 45 (Go.Operand.tmp 56) (Go.Operand.const (Go.Value.int Go.IntKind.i64 0)), type := 0, pos := "law.go:53", after := #[{ on := 4, ground := Go.Ground.data }, { on := 3, ground := Go.Ground.guard }], guard := some (3, true) }) (v := .pointer (some ⟨gx, xo, none⟩)) rfl (by kernel_rfl) (by kernel_rfl) (by kernel_rfl) (fun _ _ _ h => h) (Or.inl ⟨by kernel_rfl, ?_⟩) hHeld ?_
  · intro w hSw; clear hSw; go_simp
  simp only [Act.put, List.setIfInBounds_toArray]
  simp only [List.set_cons_succ, List.set_cons_zero]
  refine wpAnyH_take (i := 6) (oi := { dst := some 58, op := Go.Op.fieldAddr 55 (Go.Operand.tmp 57) 0, type := 0, pos := "law.go:53", after := #[{ on := 5, ground := Go.Ground.data }, { on := 3, ground := Go.Ground.guard }], guard := some (3, true) }) (v := .pointer (some ⟨gx, xo, none⟩)) rfl (by kernel_rfl) (by kernel_rfl) (by kernel_rfl) (fun _ _ _ h => h) (Or.inl ⟨by kernel_rfl, ?_⟩) hHeld ?_
  · intro w hSw; clear hSw; go_simp
  simp only [Act.put, List.setIfInBounds_toArray]
  refine wpAnyH_take (i := 7) (oi := { dst := some 59, op := Go.Op.load 9 (Go.Operand.tmp 58), type := 9, pos := "law.go:53", after := #[{ on := 6, ground := Go.Ground.data }, { on := 3, ground := Go.Ground.guard }], guard := some (3, true) }) (v := .string ⟨#[98, 111, 108, 100]⟩) rfl (by kernel_rfl) (by kernel_rfl) (by kernel_rfl) (fun _ _ _ h => h) (Or.inl ⟨by kernel_rfl, ?_⟩) hHeld ?_
  · intro w hSw; have q := hSw.1.1; clear hSw; go_simp
  simp only [Act.put, List.setIfInBounds_toArray]
  refine wpAnyH_take (i := 8) (oi := { dst := some 60, op := Go.Op.binOp Go.BinOp.eql 9 (Go.Operand.tmp 59) (Go.Operand.const (Go.Value.string { data := #[98, 111, 108, 100] })) 9, type := 4, pos := "law.go:53", after := #[{ on := 7, ground := Go.Ground.data }, { on := 3, ground := Go.Ground.guard }], guard := some (3, true) }) (v := .bool true) rfl (by kernel_rfl) (by kernel_rfl) (by kernel_rfl) (fun _ _ _ h => h) (Or.inl ⟨by kernel_rfl, ?_⟩) hHeld ?_
  · intro w hSw; clear hSw; go_simp
  simp only [Act.put, List.setIfInBounds_toArray]
  clear sbe
  refine wpAnyH_take (i := 9) (oi := { dst := some 61, op := Go.Op.pick (Go.Operand.tmp 55) (Go.Operand.tmp 60) (Go.Operand.const (Go.Value.bool false)), type := 4, pos := "law.go:53", after := #[{ on := 3, ground := Go.Ground.data }, { on := 8, ground := Go.Ground.data }], guard := none }) (v := .bool true) rfl (by kernel_rfl) (by kernel_rfl) (by kernel_rfl) (fun _ _ _ h => h) (Or.inl ⟨by kernel_rfl, ?_⟩) hHeld ?_
  · intro w hSw; clear hSw; go_simp
  simp only [Act.put, List.setIfInBounds_toArray]
  refine wpAnyH_take (i := 10) (oi := { dst := some 62, op := Go.Op.move (Go.Operand.tmp 61), type := 4, pos := "law.go:53", after := #[{ on := 9, ground := Go.Ground.data }, { on := 3, ground := Go.Ground.chain }], guard := none }) (v := .bool true) rfl (by kernel_rfl) (by kernel_rfl) (by kernel_rfl) (fun _ _ _ h => h) (Or.inl ⟨by kernel_rfl, ?_⟩) hHeld ?_
  · intro w hSw; clear hSw; go_simp
  simp only [Act.put, List.setIfInBounds_toArray]
  refine wpAnyH_take (i := 11) (oi := { dst := some 63, op := Go.Op.move (Go.Operand.tmp 4), type := 45, pos := "law.go:53", after := #[{ on := 10, ground := Go.Ground.guard }], guard := some (10, true) }) (v := .slice (some ⟨gx, xo, none⟩) 1 xc) rfl (by kernel_rfl) (by kernel_rfl) (by kernel_rfl) (fun _ _ _ h => h) (Or.inl ⟨by kernel_rfl, ?_⟩) hHeld ?_
  · intro w hSw; clear hSw; go_simp
  simp only [Act.put, List.setIfInBounds_toArray]
  simp only [List.set_cons_succ, List.set_cons_zero]
  refine wpAnyH_take (i := 12) (oi := { dst := some 64, op := Go.Op.indexAddr 45 (Go.Operand.tmp 63) (Go.Operand.const (Go.Value.int Go.IntKind.i64 0)), type := 0, pos := "law.go:53", after := #[{ on := 11, ground := Go.Ground.data }, { on := 10, ground := Go.Ground.guard }], guard := some (10, true) }) (v := .pointer (some ⟨gx, xo, none⟩)) rfl (by kernel_rfl) (by kernel_rfl) (by kernel_rfl) (fun _ _ _ h => h) (Or.inl ⟨by kernel_rfl, ?_⟩) hHeld ?_
  · intro w hSw; clear hSw; go_simp
  simp only [Act.put, List.setIfInBounds_toArray]
  refine wpAnyH_take (i := 13) (oi := { dst := some 65, op := Go.Op.fieldAddr 55 (Go.Operand.tmp 64) 1, type := 0, pos := "law.go:53", after := #[{ on := 12, ground := Go.Ground.data }, { on := 10, ground := Go.Ground.guard }], guard := some (10, true) }) (v := .pointer (some ⟨gx, xo + 1, none⟩)) rfl (by kernel_rfl) (by kernel_rfl) (by kernel_rfl) (fun _ _ _ h => h) (Or.inl ⟨by kernel_rfl, ?_⟩) hHeld ?_
  · intro w hSw; clear hSw; go_simp
  simp only [Act.put, List.setIfInBounds_toArray]
  refine wpAnyH_take (i := 14) (oi := { dst := some 66, op := Go.Op.fieldAddr 35 (Go.Operand.tmp 65) 1, type := 0, pos := "law.go:53", after := #[{ on := 13, ground := Go.Ground.data }, { on := 10, ground := Go.Ground.guard }], guard := some (10, true) }) (v := .pointer (some ⟨gx, xo + 2, none⟩)) rfl (by kernel_rfl) (by kernel_rfl) (by kernel_rfl) (fun _ _ _ h => h) (Or.inl ⟨by kernel_rfl, ?_⟩) hHeld ?_
  · intro w hSw; clear hSw; go_simp
  simp only [Act.put, List.setIfInBounds_toArray]
  refine wpAnyH_take (i := 15) (oi := { dst := some 67, op := Go.Op.load 2 (Go.Operand.tmp 66), type := 2, pos := "law.go:53", after := #[{ on := 14, ground := Go.Ground.data }, { on := 10, ground := Go.Ground.guard }], guard := some (10, true) }) (v := .int .i64 1) rfl (by kernel_rfl) (by kernel_rfl) (by kernel_rfl) (fun _ _ _ h => h) (Or.inl ⟨by kernel_rfl, ?_⟩) hHeld ?_
  · intro w hSw; have q := hSw.1.2; clear hSw; go_simp
  simp only [Act.put, List.setIfInBounds_toArray]
  refine wpAnyH_take (i := 16) (oi := { dst := some 68, op := Go.Op.binOp Go.BinOp.eql 2 (Go.Operand.tmp 67) (Go.Operand.const (Go.Value.int Go.IntKind.i64 1)) 2, type := 4, pos := "law.go:53", after := #[{ on := 15, ground := Go.Ground.data }, { on := 10, ground := Go.Ground.guard }], guard := some (10, true) }) (v := .bool true) rfl (by kernel_rfl) (by kernel_rfl) (by kernel_rfl) (fun _ _ _ h => h) (Or.inl ⟨by kernel_rfl, ?_⟩) hHeld ?_
  · intro w hSw; clear hSw; go_simp
  simp only [Act.put, List.setIfInBounds_toArray]
  refine wpAnyH_take (i := 17) (oi := { dst := some 69, op := Go.Op.pick (Go.Operand.tmp 62) (Go.Operand.tmp 68) (Go.Operand.const (Go.Value.bool false)), type := 4, pos := "law.go:53", after := #[{ on := 10, ground := Go.Ground.data }, { on := 16, ground := Go.Ground.data }], guard := none }) (v := .bool true) rfl (by kernel_rfl) (by kernel_rfl) (by kernel_rfl) (fun _ _ _ h => h) (Or.inl ⟨by kernel_rfl, ?_⟩) hHeld ?_
  · intro w hSw; clear hSw; go_simp
  simp only [Act.put, List.setIfInBounds_toArray]
  simp only [List.set_cons_succ, List.set_cons_zero]
  refine wpAnyH_take (i := 18) (oi := { dst := some 70, op := Go.Op.move (Go.Operand.tmp 69), type := 4, pos := "law.go:53", after := #[{ on := 17, ground := Go.Ground.data }, { on := 10, ground := Go.Ground.chain }], guard := none }) (v := .bool true) rfl (by kernel_rfl) (by kernel_rfl) (by kernel_rfl) (fun _ _ _ h => h) (Or.inl ⟨by kernel_rfl, ?_⟩) hHeld ?_
  · intro w hSw; clear hSw; go_simp
  simp only [Act.put, List.setIfInBounds_toArray]
  refine wpAnyH_take (i := 19) (oi := { dst := some 71, op := Go.Op.move (Go.Operand.tmp 5), type := 45, pos := "law.go:53", after := #[{ on := 18, ground := Go.Ground.guard }], guard := some (18, true) }) (v := .slice yo 0 yc) rfl (by kernel_rfl) (by kernel_rfl) (by kernel_rfl) (fun _ _ _ h => h) (Or.inl ⟨by kernel_rfl, ?_⟩) hHeld ?_
  · intro w hSw; clear hSw; go_simp
  simp only [Act.put, List.setIfInBounds_toArray]
  refine wpAnyH_take (i := 20) (oi := { dst := some 72, op := Go.Op.call { callee := Go.Callee.builtin Go.Builtin.len, args := #[Go.Operand.tmp 71], argTypes := #[45] }, type := 3, pos := "law.go:53", after := #[{ on := 19, ground := Go.Ground.data }, { on := 18, ground := Go.Ground.guard }], guard := some (18, true) }) (v := .int .i64 0) rfl (by kernel_rfl) (by kernel_rfl) (by kernel_rfl) (fun _ _ _ h => h) (Or.inl ⟨by kernel_rfl, ?_⟩) hHeld ?_
  · intro w hSw; clear hSw; go_simp
  simp only [Act.put, List.setIfInBounds_toArray]
  refine wpAnyH_take (i := 21) (oi := { dst := some 73, op := Go.Op.binOp Go.BinOp.eql 3 (Go.Operand.tmp 72) (Go.Operand.const (Go.Value.int Go.IntKind.i64 0)) 3, type := 4, pos := "law.go:53", after := #[{ on := 20, ground := Go.Ground.data }, { on := 18, ground := Go.Ground.guard }], guard := some (18, true) }) (v := .bool true) rfl (by kernel_rfl) (by kernel_rfl) (by kernel_rfl) (fun _ _ _ h => h) (Or.inl ⟨by kernel_rfl, ?_⟩) hHeld ?_
  · intro w hSw; clear hSw; go_simp
  simp only [Act.put, List.setIfInBounds_toArray]
  refine wpAnyH_take (i := 22) (oi := { dst := some 74, op := Go.Op.pick (Go.Operand.tmp 70) (Go.Operand.tmp 73) (Go.Operand.const (Go.Value.bool false)), type := 4, pos := "law.go:53", after := #[{ on := 18, ground := Go.Ground.data }, { on := 21, ground := Go.Ground.data }], guard := none }) (v := .bool true) rfl (by kernel_rfl) (by kernel_rfl) (by kernel_rfl) (fun _ _ _ h => h) (Or.inl ⟨by kernel_rfl, ?_⟩) hHeld ?_
  · intro w hSw; clear hSw; go_simp
  simp only [Act.put, List.setIfInBounds_toArray]
  refine wpAnyH_take (i := 23) (oi := { dst := some 75, op := Go.Op.move (Go.Operand.tmp 74), type := 4, pos := "law.go:53", after := #[{ on := 22, ground := Go.Ground.data }, { on := 18, ground := Go.Ground.chain }], guard := none }) (v := .bool true) rfl (by kernel_rfl) (by kernel_rfl) (by kernel_rfl) (fun _ _ _ h => h) (Or.inl ⟨by kernel_rfl, ?_⟩) hHeld ?_
  · intro w hSw; clear hSw; go_simp
  simp only [Act.put, List.setIfInBounds_toArray]
  simp only [List.set_cons_succ, List.set_cons_zero]
  refine wpAnyH_take (i := 24) (oi := { dst := some 76, op := Go.Op.move (Go.Operand.tmp 6), type := 3, pos := "law.go:53", after := #[{ on := 23, ground := Go.Ground.guard }], guard := some (23, true) }) (v := .int .i64 2) rfl (by kernel_rfl) (by kernel_rfl) (by kernel_rfl) (fun _ _ _ h => h) (Or.inl ⟨by kernel_rfl, ?_⟩) hHeld ?_
  · intro w hSw; clear hSw; go_simp
  simp only [Act.put, List.setIfInBounds_toArray]
  refine wpAnyH_take (i := 25) (oi := { dst := some 77, op := Go.Op.binOp Go.BinOp.eql 3 (Go.Operand.tmp 76) (Go.Operand.const (Go.Value.int Go.IntKind.i64 2)) 3, type := 4, pos := "law.go:53", after := #[{ on := 24, ground := Go.Ground.data }, { on := 23, ground := Go.Ground.guard }], guard := some (23, true) }) (v := .bool true) rfl (by kernel_rfl) (by kernel_rfl) (by kernel_rfl) (fun _ _ _ h => h) (Or.inl ⟨by kernel_rfl, ?_⟩) hHeld ?_
  · intro w hSw; clear hSw; go_simp
  simp only [Act.put, List.setIfInBounds_toArray]
  refine wpAnyH_take (i := 26) (oi := { dst := some 78, op := Go.Op.pick (Go.Operand.tmp 75) (Go.Operand.tmp 77) (Go.Operand.const (Go.Value.bool false)), type := 4, pos := "law.go:53", after := #[{ on := 23, ground := Go.Ground.data }, { on := 25, ground := Go.Ground.data }], guard := none }) (v := .bool true) rfl (by kernel_rfl) (by kernel_rfl) (by kernel_rfl) (fun _ _ _ h => h) (Or.inl ⟨by kernel_rfl, ?_⟩) hHeld ?_
  · intro w hSw; clear hSw; go_simp
  simp only [Act.put, List.setIfInBounds_toArray]
  refine wpAnyH_take (i := 27) (oi := { dst := some 79, op := Go.Op.move (Go.Operand.tmp 78), type := 4, pos := "law.go:53", after := #[{ on := 26, ground := Go.Ground.data }, { on := 23, ground := Go.Ground.chain }], guard := none }) (v := .bool true) rfl (by kernel_rfl) (by kernel_rfl) (by kernel_rfl) (fun _ _ _ h => h) (Or.inl ⟨by kernel_rfl, ?_⟩) hHeld ?_
  · intro w hSw; clear hSw; go_simp
  simp only [Act.put, List.setIfInBounds_toArray]
  refine wpAnyH_take (i := 28) (oi := { dst := some 80, op := Go.Op.move (Go.Operand.tmp 7), type := 4, pos := "law.go:53", after := #[{ on := 27, ground := Go.Ground.guard }], guard := some (27, true) }) (v := .bool true) rfl (by kernel_rfl) (by kernel_rfl) (by kernel_rfl) (fun _ _ _ h => h) (Or.inl ⟨by kernel_rfl, ?_⟩) hHeld ?_
  · intro w hSw; clear hSw; go_simp
  simp only [Act.put, List.setIfInBounds_toArray]
  refine wpAnyH_take (i := 29) (oi := { dst := some 81, op := Go.Op.pick (Go.Operand.tmp 79) (Go.Operand.tmp 80) (Go.Operand.const (Go.Value.bool false)), type := 4, pos := "law.go:53", after := #[{ on := 27, ground := Go.Ground.data }, { on := 28, ground := Go.Ground.data }], guard := none }) (v := .bool true) rfl (by kernel_rfl) (by kernel_rfl) (by kernel_rfl) (fun _ _ _ h => h) (Or.inl ⟨by kernel_rfl, ?_⟩) hHeld ?_
  · intro w hSw; clear hSw; go_simp
  simp only [Act.put, List.setIfInBounds_toArray]
  simp only [List.set_cons_succ, List.set_cons_zero]
  refine wpAnyH_take (i := 30) (oi := { dst := some 82, op := Go.Op.move (Go.Operand.tmp 81), type := 4, pos := "law.go:53", after := #[{ on := 29, ground := Go.Ground.data }, { on := 27, ground := Go.Ground.chain }], guard := none }) (v := .bool true) rfl (by kernel_rfl) (by kernel_rfl) (by kernel_rfl) (fun _ _ _ h => h) (Or.inl ⟨by kernel_rfl, ?_⟩) hHeld ?_
  · intro w hSw; clear hSw; go_simp
  simp only [Act.put, List.setIfInBounds_toArray]
  refine wpAnyH_take (i := 31) (oi := { dst := some 83, op := Go.Op.move (Go.Operand.tmp 8), type := 3, pos := "law.go:53", after := #[{ on := 30, ground := Go.Ground.guard }], guard := some (30, true) }) (v := .int .i64 1) rfl (by kernel_rfl) (by kernel_rfl) (by kernel_rfl) (fun _ _ _ h => h) (Or.inl ⟨by kernel_rfl, ?_⟩) hHeld ?_
  · intro w hSw; clear hSw; go_simp
  simp only [Act.put, List.setIfInBounds_toArray]
  refine wpAnyH_take (i := 32) (oi := { dst := some 84, op := Go.Op.binOp Go.BinOp.eql 3 (Go.Operand.tmp 83) (Go.Operand.const (Go.Value.int Go.IntKind.i64 1)) 3, type := 4, pos := "law.go:53", after := #[{ on := 31, ground := Go.Ground.data }, { on := 30, ground := Go.Ground.guard }], guard := some (30, true) }) (v := .bool true) rfl (by kernel_rfl) (by kernel_rfl) (by kernel_rfl) (fun _ _ _ h => h) (Or.inl ⟨by kernel_rfl, ?_⟩) hHeld ?_
  · intro w hSw; clear hSw; go_simp
  simp only [Act.put, List.setIfInBounds_toArray]
  refine wpAnyH_take (i := 33) (oi := { dst := some 85, op := Go.Op.pick (Go.Operand.tmp 82) (Go.Operand.tmp 84) (Go.Operand.const (Go.Value.bool false)), type := 4, pos := "law.go:53", after := #[{ on := 30, ground := Go.Ground.data }, { on := 32, ground := Go.Ground.data }], guard := none }) (v := .bool true) rfl (by kernel_rfl) (by kernel_rfl) (by kernel_rfl) (fun _ _ _ h => h) (Or.inl ⟨by kernel_rfl, ?_⟩) hHeld ?_
  · intro w hSw; clear hSw; go_simp
  simp only [Act.put, List.setIfInBounds_toArray]
  refine wpAnyH_take (i := 34) (oi := { dst := some 86, op := Go.Op.move (Go.Operand.tmp 85), type := 4, pos := "law.go:53", after := #[{ on := 33, ground := Go.Ground.data }, { on := 30, ground := Go.Ground.chain }], guard := none }) (v := .bool true) rfl (by kernel_rfl) (by kernel_rfl) (by kernel_rfl) (fun _ _ _ h => h) (Or.inl ⟨by kernel_rfl, ?_⟩) hHeld ?_
  · intro w hSw; clear hSw; go_simp
  simp only [Act.put, List.setIfInBounds_toArray]
  refine wpAnyH_take (i := 35) (oi := { dst := some 87, op := Go.Op.move (Go.Operand.tmp 9), type := 3, pos := "law.go:53", after := #[{ on := 34, ground := Go.Ground.guard }], guard := some (34, true) }) (v := .int .i64 3) rfl (by kernel_rfl) (by kernel_rfl) (by kernel_rfl) (fun _ _ _ h => h) (Or.inl ⟨by kernel_rfl, ?_⟩) hHeld ?_
  · intro w hSw; clear hSw; go_simp
  simp only [Act.put, List.setIfInBounds_toArray]
  simp only [List.set_cons_succ, List.set_cons_zero]
  refine wpAnyH_take (i := 36) (oi := { dst := some 88, op := Go.Op.binOp Go.BinOp.eql 3 (Go.Operand.tmp 87) (Go.Operand.const (Go.Value.int Go.IntKind.i64 3)) 3, type := 4, pos := "law.go:53", after := #[{ on := 35, ground := Go.Ground.data }, { on := 34, ground := Go.Ground.guard }], guard := some (34, true) }) (v := .bool true) rfl (by kernel_rfl) (by kernel_rfl) (by kernel_rfl) (fun _ _ _ h => h) (Or.inl ⟨by kernel_rfl, ?_⟩) hHeld ?_
  · intro w hSw; clear hSw; go_simp
  simp only [Act.put, List.setIfInBounds_toArray]
  refine wpAnyH_take (i := 37) (oi := { dst := some 89, op := Go.Op.pick (Go.Operand.tmp 86) (Go.Operand.tmp 88) (Go.Operand.const (Go.Value.bool false)), type := 4, pos := "law.go:53", after := #[{ on := 34, ground := Go.Ground.data }, { on := 36, ground := Go.Ground.data }], guard := none }) (v := .bool true) rfl (by kernel_rfl) (by kernel_rfl) (by kernel_rfl) (fun _ _ _ h => h) (Or.inl ⟨by kernel_rfl, ?_⟩) hHeld ?_
  · intro w hSw; clear hSw; go_simp
  simp only [Act.put, List.setIfInBounds_toArray]
  refine wpAnyH_take (i := 38) (oi := { dst := some 90, op := Go.Op.move (Go.Operand.tmp 89), type := 4, pos := "law.go:53", after := #[{ on := 37, ground := Go.Ground.data }, { on := 34, ground := Go.Ground.chain }], guard := none }) (v := .bool true) rfl (by kernel_rfl) (by kernel_rfl) (by kernel_rfl) (fun _ _ _ h => h) (Or.inl ⟨by kernel_rfl, ?_⟩) hHeld ?_
  · intro w hSw; clear hSw; go_simp
  simp only [Act.put, List.setIfInBounds_toArray]
  refine wpAnyH_take (i := 39) (oi := { dst := some 91, op := Go.Op.move (Go.Operand.tmp 3), type := 41, pos := "law.go:53", after := #[{ on := 38, ground := Go.Ground.guard }], guard := some (38, true) }) (v := .slice (some ⟨g, 0, none⟩) 2 2) rfl (by kernel_rfl) (by kernel_rfl) (by kernel_rfl) (fun _ _ _ h => h) (Or.inl ⟨by kernel_rfl, ?_⟩) hHeld ?_
  · intro w hSw; clear hSw; go_simp
  simp only [Act.put, List.setIfInBounds_toArray]
  refine wpAnyH_take (i := 42) (oi := { dst := some 94, op := Go.Op.move (Go.Operand.tmp 3), type := 41, pos := "law.go:53", after := #[{ on := 38, ground := Go.Ground.guard }], guard := some (38, true) }) (v := .slice (some ⟨g, 0, none⟩) 2 2) rfl (by kernel_rfl) (by kernel_rfl) (by kernel_rfl) (fun _ _ _ h => h) (Or.inl ⟨by kernel_rfl, ?_⟩) hHeld ?_
  · intro w hSw; clear hSw; go_simp
  simp only [Act.put, List.setIfInBounds_toArray]
  refine wpAnyH_take (i := 40) (oi := { dst := some 92, op := Go.Op.indexAddr 41 (Go.Operand.tmp 91) (Go.Operand.const (Go.Value.int Go.IntKind.i64 0)), type := 0, pos := "law.go:53", after := #[{ on := 39, ground := Go.Ground.data }, { on := 38, ground := Go.Ground.guard }], guard := some (38, true) }) (v := .pointer (some ⟨g, 0, none⟩)) rfl (by kernel_rfl) (by kernel_rfl) (by kernel_rfl) (fun _ _ _ h => h) (Or.inl ⟨by kernel_rfl, ?_⟩) hHeld ?_
  · intro w hSw; clear hSw; go_simp
  simp only [Act.put, List.setIfInBounds_toArray]
  simp only [List.set_cons_succ, List.set_cons_zero]
  refine wpAnyH_take (i := 43) (oi := { dst := some 95, op := Go.Op.indexAddr 41 (Go.Operand.tmp 94) (Go.Operand.const (Go.Value.int Go.IntKind.i64 1)), type := 0, pos := "law.go:53", after := #[{ on := 42, ground := Go.Ground.data }, { on := 38, ground := Go.Ground.guard }], guard := some (38, true) }) (v := .pointer (some ⟨g, 22, none⟩)) rfl (by kernel_rfl) (by kernel_rfl) (by kernel_rfl) (fun _ _ _ h => h) (Or.inl ⟨by kernel_rfl, ?_⟩) hHeld ?_
  · intro w hSw; clear hSw; go_simp
  simp only [Act.put, List.setIfInBounds_toArray]
  simp only [List.set_cons_succ, List.set_cons_zero]
  refine wpAnyH_take (i := 41) (oi := { dst := some 93, op := Go.Op.load 39 (Go.Operand.tmp 92), type := 39, pos := "law.go:53", after := #[{ on := 40, ground := Go.Ground.data }, { on := 38, ground := Go.Ground.guard }], guard := some (38, true) }) (v := .agg lA.toArray) rfl (by kernel_rfl) (by kernel_rfl) (by kernel_rfl) (fun _ _ _ h => h) (yieldsIf_load_mid (by kernel_rfl) 39 (.tmp 92) rfl g 0 rfl lA _ (fun w hw => hw.2.1) Tryz.underlying39 rfl HsA.out.1) hHeld ?_
  simp only [Act.put, List.setIfInBounds_toArray]
  refine wpAnyH_take (i := 44) (oi := { dst := some 96, op := Go.Op.load 39 (Go.Operand.tmp 95), type := 39, pos := "law.go:53", after := #[{ on := 43, ground := Go.Ground.data }, { on := 38, ground := Go.Ground.guard }], guard := some (38, true) }) (v := .agg lB.toArray) rfl (by kernel_rfl) (by kernel_rfl) (by kernel_rfl) (fun _ _ _ h => h) (yieldsIf_load_mid (by kernel_rfl) 39 (.tmp 95) rfl g 22 rfl lB _ (fun w hw => hw.2.2) Tryz.underlying39 rfl HsA.out.2) hHeld ?_
  simp only [Act.put, List.setIfInBounds_toArray]
  refine wpAnyH_ready (rs := [45]) (by kernel_rfl) (by simp) ?_
  refine AllReadyH.cons (o := { dst := some 97, op := Go.Op.call { callee := Go.Callee.value (Go.Operand.func 20), args := #[Go.Operand.tmp 93, Go.Operand.tmp 96], argTypes := #[39, 39] }, type := 4, pos := "law.go:53", after := #[{ on := 41, ground := Go.Ground.data }, { on := 44, ground := Go.Ground.data }, { on := 38, ground := Go.Ground.chain }, { on := 38, ground := Go.Ground.guard }], guard := some (38, true) }) rfl (fun K hK => ?_) AllReadyH.nil
  go_simp
  refine (HL.out _).mono ?_
  rintro e Z1 ⟨rfl, t⟩
  have HZ1 : Hid (KnW w Z1 p B2 m g ∧ SlY Z1 (.slice (some ⟨gx, xo, none⟩) 1 xc) [kM] ∧ SlY Z1 (.slice yo 0 yc) []) := ⟨HZ0.out.1.keep t, HZ0.out.2.1.touch t, HZ0.out.2.2.touch t⟩
  have hS2 : (Z1.cell? ⟨gx, xo, none⟩ = some (.string ⟨#[98, 111, 108, 100]⟩) ∧ Z1.cell? ⟨gx, xo + 2, none⟩ = some (.int .i64 1)) ∧ Z1.rangeAt g 0 lA ∧ Z1.rangeAt g 22 lB := ⟨HSx.out _ HZ1.out.2.1, HtA.out _ _ HZ1.out.1⟩
  clear t HZ0
  refine hK.out _ _ hS2 (fun hHeld => ?_)
  clear hK K hS2
  refine wpAnyH_take (i := 46) (oi := { dst := some 98, op := Go.Op.pick (Go.Operand.tmp 90) (Go.Operand.tmp 97) (Go.Operand.const (Go.Value.bool false)), type := 4, pos := "law.go:53", after := #[{ on := 38, ground := Go.Ground.data }, { on := 45, ground := Go.Ground.data }], guard := none }) (v := .bool true) rfl (by kernel_rfl) (by kernel_rfl) (by kernel_rfl) (fun _ _ _ h => h) (Or.inl ⟨by kernel_rfl, ?_⟩) hHeld ?_
  · intro w hSw; clear hSw; go_simp
  simp only [Act.put, List.setIfInBounds_toArray]
  refine wpAnyH_take (i := 47) (oi := { dst := some 99, op := Go.Op.move (Go.Operand.tmp 98), type := 4, pos := "law.go:53", after := #[{ on := 46, ground := Go.Ground.data }, { on := 45, ground := Go.Ground.chain }], guard := none }) (v := .bool true) rfl (by kernel_rfl) (by kernel_rfl) (by kernel_rfl) (fun _ _ _ h => h) (Or.inl ⟨by kernel_rfl, ?_⟩) hHeld ?_
  · intro w hSw; clear hSw; go_simp
  simp only [Act.put, List.setIfInBounds_toArray]
  simp only [List.set_cons_succ, List.set_cons_zero]
  refine wpAnyH_take (i := 48) (oi := { dst := some 100, op := Go.Op.move (Go.Operand.tmp 4), type := 45, pos := "law.go:53", after := #[{ on := 47, ground := Go.Ground.guard }], guard := some (47, true) }) (v := .slice (some ⟨gx, xo, none⟩) 1 xc) rfl (by kernel_rfl) (by kernel_rfl) (by kernel_rfl) (fun _ _ _ h => h) (Or.inl ⟨by kernel_rfl, ?_⟩) hHeld ?_
  · intro w hSw; clear hSw; go_simp
  simp only [Act.put, List.setIfInBounds_toArray]
  refine wpAnyH_take (i := 49) (oi := { dst := some 101, op := Go.Op.move (Go.Operand.tmp 5), type := 45, pos := "law.go:53", after := #[{ on := 47, ground := Go.Ground.guard }], guard := some (47, true) }) (v := .slice yo 0 yc) rfl (by kernel_rfl) (by kernel_rfl) (by kernel_rfl) (fun _ _ _ h => h) (Or.inl ⟨by kernel_rfl, ?_⟩) hHeld ?_
  · intro w hSw; clear hSw; go_simp
  simp only [Act.put, List.setIfInBounds_toArray]
  refine wpAnyH_ready (rs := [50]) (by kernel_rfl) (by simp) ?_
  refine AllReadyH.cons (o := { dst := some 102, op := Go.Op.call { callee := Go.Callee.value (Go.Operand.func 21), args := #[Go.Operand.tmp 100, Go.Operand.tmp 101], argTypes := #[45, 45] }, type := 4, pos := "law.go:53", after := #[{ on := 48, ground := Go.Ground.data }, { on := 49, ground := Go.Ground.data }, { on := 47, ground := Go.Ground.chain }, { on := 47, ground := Go.Ground.guard }], guard := some (47, true) }) rfl (fun K hK => ?_) AllReadyH.nil
  go_simp
  refine (HSm.out _ HZ1.out.2.1 HZ1.out.2.2).mono ?_
  rintro e Z2 ⟨rfl, t⟩
  have HZ2 : Hid (KnW w Z2 p B2 m g ∧ SlY Z2 (.slice (some ⟨gx, xo, none⟩) 1 xc) [kM] ∧ SlY Z2 (.slice yo 0 yc) []) := ⟨HZ1.out.1.keep t, HZ1.out.2.1.touch t, HZ1.out.2.2.touch t⟩
  have hS2 : (Z2.cell? ⟨gx, xo, none⟩ = some (.string ⟨#[98, 111, 108, 100]⟩) ∧ Z2.cell? ⟨gx, xo + 2, none⟩ = some (.int .i64 1)) ∧ Z2.rangeAt g 0 lA ∧ Z2.rangeAt g 22 lB := ⟨HSx.out _ HZ2.out.2.1, HtA.out _ _ HZ2.out.1⟩
  clear t HZ1
  refine hK.out _ _ hS2 (fun hHeld => ?_)
  clear hK K hS2
  refine wpAnyH_take (i := 51) (oi := { dst := some 103, op := Go.Op.unOp Go.UnOp.not 4 (Go.Operand.tmp 102), type := 4, pos := "law.go:53", after := #[{ on := 50, ground := Go.Ground.data }, { on := 47, ground := Go.Ground.guard }], guard := some (47, true) }) (v := .bool true) rfl (by kernel_rfl) (by kernel_rfl) (by kernel_rfl) (fun _ _ _ h => h) (Or.inl ⟨by kernel_rfl, ?_⟩) hHeld ?_
  · intro w hSw; clear hSw; go_simp
  simp only [Act.put, List.setIfInBounds_toArray]
  refine wpAnyH_take (i := 52) (oi := { dst := some 104, op := Go.Op.pick (Go.Operand.tmp 99) (Go.Operand.tmp 103) (Go.Operand.const (Go.Value.bool false)), type := 4, pos := "law.go:53", after := #[{ on := 47, ground := Go.Ground.data }, { on := 51, ground := Go.Ground.data }], guard := none }) (v := .bool true) rfl (by kernel_rfl) (by kernel_rfl) (by kernel_rfl) (fun _ _ _ h => h) (Or.inl ⟨by kernel_rfl, ?_⟩) hHeld ?_
  · intro w hSw; clear hSw; go_simp
  simp only [Act.put, List.setIfInBounds_toArray]
  refine wpAnyH_take (i := 53) (oi := { dst := some 105, op := Go.Op.move (Go.Operand.tmp 104), type := 4, pos := "law.go:53", after := #[{ on := 52, ground := Go.Ground.data }, { on := 50, ground := Go.Ground.chain }], guard := none }) (v := .bool true) rfl (by kernel_rfl) (by kernel_rfl) (by kernel_rfl) (fun _ _ _ h => h) (Or.inl ⟨by kernel_rfl, ?_⟩) hHeld ?_
  · intro w hSw; clear hSw; go_simp
  simp only [Act.put, List.setIfInBounds_toArray]
  simp only [List.set_cons_succ, List.set_cons_zero]
  refine wpAnyH_take (i := 54) (oi := { dst := some 106, op := Go.Op.move (Go.Operand.tmp 4), type := 45, pos := "law.go:53", after := #[{ on := 53, ground := Go.Ground.guard }], guard := some (53, true) }) (v := .slice (some ⟨gx, xo, none⟩) 1 xc) rfl (by kernel_rfl) (by kernel_rfl) (by kernel_rfl) (fun _ _ _ h => h) (Or.inl ⟨by kernel_rfl, ?_⟩) hHeld ?_
  · intro w hSw; clear hSw; go_simp
  simp only [Act.put, List.setIfInBounds_toArray]
  refine wpAnyH_take (i := 55) (oi := { dst := some 107, op := Go.Op.move (Go.Operand.tmp 4), type := 45, pos := "law.go:53", after := #[{ on := 53, ground := Go.Ground.guard }], guard := some (53, true) }) (v := .slice (some ⟨gx, xo, none⟩) 1 xc) rfl (by kernel_rfl) (by kernel_rfl) (by kernel_rfl) (fun _ _ _ h => h) (Or.inl ⟨by kernel_rfl, ?_⟩) hHeld ?_
  · intro w hSw; clear hSw; go_simp
  simp only [Act.put, List.setIfInBounds_toArray]
  refine wpAnyH_ready (rs := [56]) (by kernel_rfl) (by simp) ?_
  refine AllReadyH.cons (o := { dst := some 108, op := Go.Op.call { callee := Go.Callee.value (Go.Operand.func 21), args := #[Go.Operand.tmp 106, Go.Operand.tmp 107], argTypes := #[45, 45] }, type := 4, pos := "law.go:53", after := #[{ on := 54, ground := Go.Ground.data }, { on := 55, ground := Go.Ground.data }, { on := 53, ground := Go.Ground.chain }, { on := 53, ground := Go.Ground.guard }], guard := some (53, true) }) rfl (fun K hK => ?_) AllReadyH.nil
  go_simp
  refine (HSs.out _ HZ2.out.2.1).mono ?_
  rintro e Z3 ⟨rfl, t⟩
  have HZ3 : Hid (KnW w Z3 p B2 m g ∧ SlY Z3 (.slice (some ⟨gx, xo, none⟩) 1 xc) [kM] ∧ SlY Z3 (.slice yo 0 yc) []) := ⟨HZ2.out.1.keep t, HZ2.out.2.1.touch t, HZ2.out.2.2.touch t⟩
  have hS2 : (Z3.cell? ⟨gx, xo, none⟩ = some (.string ⟨#[98, 111, 108, 100]⟩) ∧ Z3.cell? ⟨gx, xo + 2, none⟩ = some (.int .i64 1)) ∧ Z3.rangeAt g 0 lA ∧ Z3.rangeAt g 22 lB := ⟨HSx.out _ HZ3.out.2.1, HtA.out _ _ HZ3.out.1⟩
  clear t HZ2
  refine hK.out _ _ hS2 (fun hHeld => ?_)
  clear hK K hS2
  refine wpAnyH_take (i := 57) (oi := { dst := some 109, op := Go.Op.pick (Go.Operand.tmp 105) (Go.Operand.tmp 108) (Go.Operand.const (Go.Value.bool false)), type := 4, pos := "law.go:53", after := #[{ on := 53, ground := Go.Ground.data }, { on := 56, ground := Go.Ground.data }], guard := none }) (v := .bool true) rfl (by kernel_rfl) (by kernel_rfl) (by kernel_rfl) (fun _ _ _ h => h) (Or.inl ⟨by kernel_rfl, ?_⟩) hHeld ?_
  · intro w hSw; clear hSw; go_simp
  simp only [Act.put, List.setIfInBounds_toArray]
  refine wpAnyH_take (i := 58) (oi := { dst := some 0, op := Go.Op.assign (Go.Operand.tmp 109), type := 4, pos := "law.go:53", after := #[{ on := 57, ground := Go.Ground.data }, { on := 56, ground := Go.Ground.chain }, { on := 0, ground := Go.Ground.phase }, { on := 1, ground := Go.Ground.phase }, { on := 2, ground := Go.Ground.phase }, { on := 3, ground := Go.Ground.phase }, { on := 4, ground := Go.Ground.phase }, { on := 5, ground := Go.Ground.phase }, { on := 6, ground := Go.Ground.phase }, { on := 7, ground := Go.Ground.phase }, { on := 8, ground := Go.Ground.phase }, { on := 9, ground := Go.Ground.phase }, { on := 10, ground := Go.Ground.phase }, { on := 11, ground := Go.Ground.phase }, { on := 12, ground := Go.Ground.phase }, { on := 13, ground := Go.Ground.phase }, { on := 14, ground := Go.Ground.phase }, { on := 15, ground := Go.Ground.phase }, { on := 16, ground := Go.Ground.phase }, { on := 17, ground := Go.Ground.phase }, { on := 18, ground := Go.Ground.phase }, { on := 19, ground := Go.Ground.phase }, { on := 20, ground := Go.Ground.phase }, { on := 21, ground := Go.Ground.phase }, { on := 22, ground := Go.Ground.phase }, { on := 23, ground := Go.Ground.phase }, { on := 24, ground := Go.Ground.phase }, { on := 25, ground := Go.Ground.phase }, { on := 26, ground := Go.Ground.phase }, { on := 27, ground := Go.Ground.phase }, { on := 28, ground := Go.Ground.phase }, { on := 29, ground := Go.Ground.phase }, { on := 30, ground := Go.Ground.phase }, { on := 31, ground := Go.Ground.phase }, { on := 32, ground := Go.Ground.phase }, { on := 33, ground := Go.Ground.phase }, { on := 34, ground := Go.Ground.phase }, { on := 35, ground := Go.Ground.phase }, { on := 36, ground := Go.Ground.phase }, { on := 37, ground := Go.Ground.phase }, { on := 38, ground := Go.Ground.phase }, { on := 39, ground := Go.Ground.phase }, { on := 40, ground := Go.Ground.phase }, { on := 41, ground := Go.Ground.phase }, { on := 42, ground := Go.Ground.phase }, { on := 43, ground := Go.Ground.phase }, { on := 44, ground := Go.Ground.phase }, { on := 45, ground := Go.Ground.phase }, { on := 46, ground := Go.Ground.phase }, { on := 47, ground := Go.Ground.phase }, { on := 48, ground := Go.Ground.phase }, { on := 49, ground := Go.Ground.phase }, { on := 50, ground := Go.Ground.phase }, { on := 51, ground := Go.Ground.phase }, { on := 52, ground := Go.Ground.phase }, { on := 53, ground := Go.Ground.phase }, { on := 54, ground := Go.Ground.phase }, { on := 55, ground := Go.Ground.phase }, { on := 56, ground := Go.Ground.phase }, { on := 57, ground := Go.Ground.phase }], guard := none }) (v := .bool true) rfl (by kernel_rfl) (by kernel_rfl) (by kernel_rfl) (fun _ _ _ h => h) (Or.inl ⟨by kernel_rfl, ?_⟩) hHeld ?_
  · intro w hSw; clear hSw; go_simp
  simp only [Act.put, List.setIfInBounds_toArray]
  refine wpAnyH_done (by kernel_rfl) ?_ _
  try simp only [List.getElem_toArray, List.getElem_cons_succ, List.getElem_cons_zero, List.setIfInBounds_toArray, List.set_cons_succ, List.set_cons_zero]
  clear hHeld
  go_wp2_with fail
  go_ret
  exact ⟨rfl, HZ3.out.1.t⟩
end Go.Proofs.YtnilikomoapcaaaGreat
