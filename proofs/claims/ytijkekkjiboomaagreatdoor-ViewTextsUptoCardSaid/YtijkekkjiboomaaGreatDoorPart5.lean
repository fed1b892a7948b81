/- Package marks: Same. -/
import Derived.Test.YtijkekkjiboomaaGreatDoorPart3
import Derived.Test.YtijkekkjiboomaaGreatDoorPart4
import Derived.Deep.CutBlock
import Derived.Deep.LoopGhost
namespace Go.Proofs.YtijkekkjiboomaaGreatDoor
open Go.RowKit
set_option linter.unusedVariables false
set_option linter.unusedSimpArgs false
set_option maxRecDepth 100000

abbrev Mk.v (a : Mk) : V := ⟨a.vk, a.vn, a.vf, a.vs⟩
abbrev Mk.val (a : Mk) : Value := .agg #[.string a.ky, .int .i64 a.vk, .int .i64 a.vn, .float .f64 a.vf, .string a.vs]
theorem hkY {w W : World} (t : Touch (fun _ => False) w W) {b : Nat} {o : Obj} (h : w.heap[b]? = some o) : W.heap[b]? = some o := (t.block _ (lt_of_heap h) id).trans h
/-- Two marks are alike. -/
def sameK (a b : Mk) : Bool := (a.ky.toList == b.ky.toList) && (refCmp a.v b.v == 0)
def sameL (a b : List Mk) : Bool := decide (a.length = b.length) && (a.zip b).all fun p => sameK p.1 p.2
theorem myO_cells {W : World} {m : Nat} {a : Mk} (h : W.heap[m]? = some (myO a)) : W.cell? ⟨m, 0, none⟩ = some (.string a.ky) ∧ W.cell? ⟨m, 1, none⟩ = some (.int .i64 a.vk) ∧ W.cell? ⟨m, 2, none⟩ = some (.int .i64 a.vn) ∧ W.cell? ⟨m, 3, none⟩ = some (.float .f64 a.vf) ∧ W.cell? ⟨m, 4, none⟩ = some (.string a.vs) :=
  ⟨by rw [cell_of_block h]; rfl, by rw [cell_of_block h]; rfl, by rw [cell_of_block h]; rfl, by rw [cell_of_block h]; rfl, by rw [cell_of_block h]; rfl⟩
set_option maxHeartbeats 4000000 in
theorem same1_any (a b : Mk) (ha : a.vf < 18446744073709551616) (hb : b.vf < 18446744073709551616) (w : World) :
    Calls Tryz.prog 105 #[a.val, b.val] w fun e w' => e = .returned (.bool (sameK a b)) ∧ Touch (fun _ => False) w w' := by
  obtain ⟨E, hE⟩ : ∃ E, Hid (E = (w.alloc (myO a)).alloc (myO b)) := ⟨_, Eq.refl _⟩
  have HTE : Hid (Touch (fun _ => False) w E) := by rw [hE.out]; exact ((Touch.refl _ _).alloc _).alloc _
  obtain ⟨a0, a1, a2, a3, a4⟩ := myO_cells (show E.heap[w.heap.size]? = some (myO a) by rw [hE.out]; exact hkY ((Touch.refl _ _).alloc _) (heap_alloc_new _ _))
  obtain ⟨b0, b1, b2, b3, b4⟩ := myO_cells (show E.heap[w.heap.size + 1]? = some (myO b) by rw [hE.out]; have := heap_alloc_new (w.alloc (myO a)) (myO b); rwa [show (w.alloc (myO a)).heap.size = w.heap.size + 1 from Array.size_push _] at this)
  have HS : Hid (Calls Tryz.prog 94 #[.agg #[.int .i64 a.vk, .int .i64 a.vn, .float .f64 a.vf, .string a.vs], .agg #[.int .i64 b.vk, .int .i64 b.vn, .float .f64 b.vf, .string b.vs]] E fun e w' => e = .returned (.bool (refCmp a.v b.v == 0)) ∧ Touch (fun _ => False) E w') := v_same a.v b.v ha hb E
  have HK : Hid (sameK a b = ((a.ky.toList == b.ky.toList) && (refCmp a.v b.v == 0))) := Eq.refl _
  rw [HK.out]
  clear HK ha hb
  generalize (refCmp a.v b.v == 0) = r at *
  obtain ⟨ak, avk, avn, avf, avs⟩ := a
  obtain ⟨bk, bvk, bvn, bvf, bvs⟩ := b
  simp only at a0 a1 a2 a3 a4 b0 b1 b2 b3 b4 HS ⊢
  go_enter Tryz.func105, Tryz.ntmps105
  go_upto_region 1 with fail
  rw [← hE.out]
  clear hE
  cases hk : (ak.toList == bk.toList) with
  | false =>
    go_wp2_with fail
    go_ret
    exact ⟨by rw [hk]; rfl, HTE.out⟩
  | true =>
    go_wp2_with fail
    refine HS.out.mono ?_
    rintro e W1 ⟨rfl, t1⟩
    have HT1 : Hid (Touch (fun _ => False) w W1) := HTE.out.trans t1
    clear t1 a0 a1 a2 a3 a4 b0 b1 b2 b3 b4
    go_wp2_with fail
    go_ret
    exact ⟨by rw [hk]; rfl, HT1.out⟩
theorem SlY.at {w : World} {ao : Option Addr} {n cap : Nat} {l : List Mk} (h : SlY w (.slice ao n cap) l) (hne : l ≠ []) : ∃ b o, ao = some ⟨b, o, none⟩ ∧ ∀ wr, Touch (fun _ => False) w wr → ∀ j (h : j < l.length), wr.cell? ⟨b, o + j * 5, none⟩ = some (.string l[j].ky) ∧ wr.cell? ⟨b, o + j * 5 + 1, none⟩ = some (.int .i64 l[j].vk) ∧ wr.cell? ⟨b, o + j * 5 + 2, none⟩ = some (.int .i64 l[j].vn) ∧ wr.cell? ⟨b, o + j * 5 + 3, none⟩ = some (.float .f64 l[j].vf) ∧ wr.cell? ⟨b, o + j * 5 + 4, none⟩ = some (.string l[j].vs) := by
  obtain ⟨b, o, c, e, -, -, -, -⟩ := h.row hne
  simp only [Value.slice.injEq] at e
  refine ⟨b, o, e.1, fun wr t j hj => ?_⟩
  obtain ⟨b', o', c', e', -, -, -, hx⟩ := (h.touch t).row hne
  simp only [Value.slice.injEq] at e'
  rw [e.1, Option.some.injEq, Addr.mk.injEq] at e'
  obtain ⟨⟨rfl, rfl, -⟩, -⟩ := e'
  exact hx j hj
theorem sameL_no {a b : List Mk} (h : a.length = b.length) {j : Nat} (ha : j < a.length) (hb : j < b.length) (hk : sameK a[j] b[j] = false) : sameL a b = false := by
  unfold sameL
  rw [Bool.and_eq_false_iff]
  refine .inr ?_
  rw [List.all_eq_false]
  refine ⟨(a[j], b[j]), ?_, by simp [hk]⟩
  rw [List.mem_iff_getElem]
  exact ⟨j, by rw [List.length_zip]; omega, by rw [List.getElem_zip]⟩
theorem sameL_all {a b : List Mk} (h : a.length = b.length) (hk : ∀ j (ha : j < a.length) (hb : j < b.length), sameK a[j] b[j] = true) : sameL a b = true := by
  unfold sameL
  rw [Bool.and_eq_true, decide_eq_true_eq]
  refine ⟨h, ?_⟩
  rw [List.all_eq_true]
  intro p hp
  obtain ⟨j, hj, rfl⟩ := List.mem_iff_getElem.1 hp
  rw [List.getElem_zip]
  rw [List.length_zip] at hj
  exact hk j (by omega) (by omega)
set_option maxHeartbeats 4000000 in
theorem equalF_any {w : World} {va vb : Value} {a b : List Mk} (hA : SlY w va a) (hB : SlY w vb b) (fa : ∀ m ∈ a, m.vf < 18446744073709551616) (fb : ∀ m ∈ b, m.vf < 18446744073709551616) :
    Calls Tryz.prog 104 #[va, vb, .func (.func 105) #[] #[]] w fun e w' => e = .returned (.bool (sameL a b)) ∧ Touch (fun _ => False) w w' := by
  obtain ⟨ao, ac, rfl, a1, a2, a3⟩ := hA.shape
  obtain ⟨bo, bc, rfl, b1, b2, b3⟩ := hB.shape
  have HA : Hid (a ≠ [] → _) := hA.at
  have HB : Hid (b ≠ [] → _) := hB.at
  have HF : Hid (∀ j (h1 : j < a.length) (h2 : j < b.length) W, Calls Tryz.prog 105 #[.agg #[.string a[j].ky, .int .i64 a[j].vk, .int .i64 a[j].vn, .float .f64 a[j].vf, .string a[j].vs], .agg #[.string b[j].ky, .int .i64 b[j].vk, .int .i64 b[j].vn, .float .f64 b[j].vf, .string b[j].vs]] W fun e w' => e = .returned (.bool (sameK a[j] b[j])) ∧ Touch (fun _ => False) W w') := fun j h1 h2 W => same1_any a[j] b[j] (fa _ (List.getElem_mem h1)) (fb _ (List.getElem_mem h2)) W
  clear hA hB fa fb
  by_cases hn : a.length = b.length
  · have HN : Hid (a.length = b.length) := hn
    have HNo : Hid (∀ j (h1 : j < a.length) (h2 : j < b.length), sameK a[j] b[j] = false → sameL a b = false) := fun j h1 h2 => sameL_no hn h1 h2
    have HAll : Hid ((∀ j (ha : j < a.length) (hb : j < b.length), sameK a[j] b[j] = true) → sameL a b = true) := sameL_all hn
    have hnb : ((a.length : Int) != (b.length : Int)) = false := by simp [hn]
    clear hn
    generalize sameL a b = R at *
    go_enter Tryz.func104, Tryz.ntmps104
    go_wp2_with fail
    clear hnb
    go_loopw [17] (fun i wr => ∃ j : Nat, i = .int .i64 (j : Int) ∧ j ≤ a.length ∧ Touch (fun _ => False) w wr ∧ ∀ k (h1 : k < a.length) (h2 : k < b.length), k < j → sameK a[k] b[k] = true) (fun i _ => a.length - (intOf i).toNat)
    case atStart => exact ⟨0, rfl, Nat.zero_le _, Touch.refl _ _, fun k _ _ h => absurd h (Nat.not_lt_zero _)⟩
    case round =>
      obtain ⟨j, rfl, hj, hT, hk⟩ := hrel
      by_cases hlt : j < a.length
      · have hltb : j < b.length := by rw [← HN.out]; exact hlt
        obtain ⟨ab, ax, rfl, hca⟩ := HA.out (by intro e; subst e; simp at hlt)
        obtain ⟨bb, bx, rfl, hcb⟩ := HB.out (by intro e; subst e; simp at hltb)
        obtain ⟨x0, x1, x2, x3, x4⟩ := hca wr hT j hlt
        obtain ⟨y0, y1, y2, y3, y4⟩ := hcb (wr.alloc (myO a[j])) (hT.alloc _) j hltb
        have HC := HF.out j hlt hltb
        have HK : Hid (∀ k (h1 : k < a.length) (h2 : k < b.length), k < j → sameK a[k] b[k] = true) := hk
        have HNj : Hid (sameK a[j] b[j] = false → R = false) := HNo.out j hlt hltb
        have HT : Hid (Touch (fun _ => False) w wr) := hT
        have HLt : Hid (j < a.length ∧ j < b.length) := ⟨hlt, hltb⟩
        have hi1 : (0 : Int) ≤ (j : Int) := by omega
        have hi2 : (j : Int) < (a.length : Int) := by omega
        have hi3 : (j : Int) < (b.length : Int) := by omega
        have hjm : (j : Int) + 1 < 9223372036854775808 := by omega
        have HU : Hid (∀ W, Touch (fun _ => False) ((wr.alloc (myO a[j])).alloc (myO b[j])) W → sameK a[j] b[j] = true → ∃ j' : Nat, (.int .i64 ((j : Int) + 1) : Value) = .int .i64 (j' : Int) ∧ j' ≤ a.length ∧ Touch (fun _ => False) w W ∧ ∀ k (h1 : k < a.length) (h2 : k < b.length), k < j' → sameK a[k] b[k] = true) := fun W t e => ⟨j + 1, by go_num, by omega, ((hT.alloc _).alloc _).trans t, fun k h1 h2 h3 => by
          rcases Nat.lt_or_eq_of_le (Nat.le_of_lt_succ h3) with h | h
          · exact hk k h1 h2 h
          · subst h; exact e⟩
        have HV : Hid (∀ W, Touch (fun _ => False) ((wr.alloc (myO a[j])).alloc (myO b[j])) W → Touch (fun _ => False) w W) := fun W t => ((hT.alloc _).alloc _).trans t
        have hm0 : Hid (a.length - (j + 1) < a.length - j) := by rw [Hid]; omega
        clear hk hT hca hcb HA HB HF HN HNo HAll a1 b1 HLt HK HT hj
        generalize a[j] = x at *
        generalize b[j] = y at *
        clear hlt hltb
        have bx := heap_alloc_new wr (myO x)
        have by_ := heap_alloc_new (wr.alloc (myO x)) (myO y)
        rw [show (wr.alloc (myO x)).heap.size = wr.heap.size + 1 from Array.size_push _] at by_
        obtain ⟨p0, p1, p2, p3, p4⟩ := myO_cells (hkY ((Touch.refl _ _).alloc (myO y)) bx)
        obtain ⟨r0, r1, r2, r3, r4⟩ := myO_cells by_
        clear bx by_
        have HC' : Hid (∀ W, Calls Tryz.prog 105 #[.agg #[.string x.ky, .int .i64 x.vk, .int .i64 x.vn, .float .f64 x.vf, .string x.vs], .agg #[.string y.ky, .int .i64 y.vk, .int .i64 y.vn, .float .f64 y.vf, .string y.vs]] W fun e w' => e = .returned (.bool (sameK x y)) ∧ Touch (fun _ => False) W w') := HC
        clear HC
        generalize sameK x y = sk at *
        obtain ⟨xk, xvk, xvn, xvf, xvs⟩ := x
        obtain ⟨yk, yvk, yvn, yvf, yvs⟩ := y
        simp only at x0 x1 x2 x3 x4 y0 y1 y2 y3 y4 p0 p1 p2 p3 p4 r0 r1 r2 r3 r4 HC'
        have hst := run_store_f64 Tryz.prog
        go_wp2_with fail
        clear hst
        refine (HC'.out _).mono ?_
        rintro e W2 ⟨rfl, t2⟩
        cases sk with
        | false =>
          have HR : Hid (R = false) := HNj.out rfl
          have HT2 : Hid (Touch (fun _ => False) w W2) := HV.out W2 t2
          clear t2 HV HU
          go_wp2_with fail
          go_ret
          exact ⟨by rw [HR.out]; rfl, HT2.out⟩
        | true =>
          have HU2 := HU.out W2 t2 rfl
          have HU3 : Hid _ := HU2
          clear t2 HV HU HU2
          go_wp2_with fail
          go_roundw
          case rel => exact HU3.out
          case measure => simp only [intOf]; have := hm0.out; omega
      · have hR : Hid (R = true) := HAll.out fun k h1 h2 => hk k h1 h2 (by omega)
        have hi2 : ¬ (j : Int) < (a.length : Int) := by omega
        have HT : Hid (Touch (fun _ => False) w wr) := hT
        clear hk hT hlt HA HB HF HN HNo HAll a1 b1 hj
        go_wp2_with fail
        go_ret
        exact ⟨by rw [hR.out]; rfl, HT.out⟩
  · have hnb : ((a.length : Int) != (b.length : Int)) = true := by simp; omega
    have HR : Hid (sameL a b = false) := by unfold sameL; rw [Hid, decide_eq_false hn]; rfl
    rw [HR.out]
    clear HR HA HB HF hn
    go_enter Tryz.func104, Tryz.ntmps104
    go_wp2_with fail
    go_ret
    exact ⟨rfl, Touch.refl _ _⟩
set_option maxHeartbeats 4000000 in
theorem msame_any {w : World} {va vb : Value} {a b : List Mk} (hA : SlY w va a) (hB : SlY w vb b) (fa : ∀ m ∈ a, m.vf < 18446744073709551616) (fb : ∀ m ∈ b, m.vf < 18446744073709551616) :
    Calls Tryz.prog 88 #[va, vb] w fun e w' => e = .returned (.bool (sameL a b)) ∧ Touch (fun _ => False) w w' := by
  have HE : Hid (Calls Tryz.prog 104 #[va, vb, .func (.func 105) #[] #[]] w fun e w' => e = .returned (.bool (sameL a b)) ∧ Touch (fun _ => False) w w') := equalF_any hA hB fa fb
  obtain ⟨ao, ac, rfl, -, -, -⟩ := hA.shape
  obtain ⟨bo, bc, rfl, -, -, -⟩ := hB.shape
  clear hA hB fa fb
  generalize sameL a b = R at *
  generalize a.length = na at *
  generalize b.length = nb at *
  go_enter Tryz.func88, Tryz.ntmps88
  go_wp2_with fail
  refine HE.out.mono ?_
  rintro e W1 ⟨rfl, t1⟩
  have HT : Hid (Touch (fun _ => False) w W1) := t1
  clear t1
  go_wp2_with fail
  go_ret
  exact ⟨rfl, HT.out⟩
end Go.Proofs.YtijkekkjiboomaaGreatDoor

/- The contracts of value's empty, asFloat. -/
namespace Go.Proofs.YtijkekkjiboomaaGreatDoor
open Go.RowKit
set_option linter.unusedVariables false
set_option maxRecDepth 100000

/-- Nothing but a kind. -/
def vEmpty (v : V) : Bool := (v.n == 0) && ((v.f : Int) == 0) && v.s.toList.isEmpty
/-- The number as a float, and whether it is one. -/
def vNum (v : V) : Nat := if isNum v then vFloat v else 0
end Go.Proofs.YtijkekkjiboomaaGreatDoor

/- The contract of value.Clean. -/
namespace Go.Proofs.YtijkekkjiboomaaGreatDoor
open Go.RowKit
set_option linter.unusedVariables false
set_option maxRecDepth 100000

/-- A NaN's bits are the one NaN's, whatever the kind. -/
def vClean (v : V) : V := ⟨v.k, v.n, refBits v.f, v.s⟩
set_option maxHeartbeats 400000 in
theorem v_clean (v : V) (w : World) : Calls Tryz.prog 67 #[v.val] w fun e w' => e = .returned (vClean v).val ∧ Touch (fun _ => False) w w' := by
  obtain ⟨k, n, f, s⟩ := v
  have HB : Hid (∀ w, Calls Tryz.prog 78 #[.float .f64 f] w fun e w' => e = .returned (.float .f64 (refBits f)) ∧ w' = w) := v_oneNaN f
  simp only [V.val, vClean] at *
  generalize refBits f = g at *
  have h2 := run_store_f64 Tryz.prog
  go_enter Tryz.func67, Tryz.ntmps67
  go_wp2_with fail
  refine (HB.out _).mono ?_
  rintro e w1 ⟨rfl, rfl⟩
  go_wp2_with fail
  refine bodyPost_ret (v := .agg #[.int .i64 k, .int .i64 n, .float .f64 g, .string s]) (by simp [results, Tryz.results67, go_sem]) rfl ⟨rfl, ?_⟩
  first
    | exact ((Touch.refl _ _).alloc _).alloc _
    | exact (((((((Touch.refl _ _).alloc _).alloc _).setCell _ _ (fun h => by simp only at h; omega)).setCell _ _ (fun h => by simp only at h; omega)).setCell _ _ (fun h => by simp only at h; omega)).setCell _ _ (fun h => by simp only at h; omega)).setCell _ _ (fun h => by simp only at h; omega)
end Go.Proofs.YtijkekkjiboomaaGreatDoor
