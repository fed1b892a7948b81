/- The contracts of value.Cmp and value.Same. -/
import Derived.Test.YtdnhoicfolkbnaaGreatPart23
import Derived.Deep.RegionHeld
import Derived.Test.YtdnhoicfolkbnaaGreatPart22
import Derived.Deep.CutBlock
import Derived.Deep.LoopGhost
import Derived.Test.YtdnhoicfolkbnaaGreatPart20
import Derived.Deep.MidRow
import Derived.Test.YtdnhoicfolkbnaaGreatPart17
import Derived.Test.YtdnhoicfolkbnaaGreatPart19
namespace Go.Proofs.YtdnhoicfolkbnaaGreat
open Go.RowKit
set_option linter.unusedVariables false
set_option maxRecDepth 100000

theorem refInts_shift (a b : Int) : refInts (a + 9223372036854775808) (b + 9223372036854775808) = refInts a b := by
  unfold refInts
  by_cases h1 : a < b
  · rw [if_pos (by omega), if_pos h1]
  · rw [if_neg (by omega), if_neg h1]
    by_cases h2 : b < a
    · rw [if_pos (by omega), if_pos h2]
    · rw [if_neg (by omega), if_neg h2]
theorem refCmp_or (a b : V) : firstNZ [refInts a.k b.k, refInts a.n b.n, refInts (refOrder a.f + 9223372036854775808) (refOrder b.f + 9223372036854775808), refText a.s b.s] = refCmp a b := by
  rw [refInts_shift]
  unfold refCmp
  simp only [firstNZ]
  by_cases h1 : refInts a.k b.k ≠ 0
  · rw [if_pos h1, if_pos h1]
  rw [if_neg h1, if_neg h1]
  by_cases h2 : refInts a.n b.n ≠ 0
  · rw [if_pos h2, if_pos h2]
  rw [if_neg h2, if_neg h2]
  by_cases h3 : refInts (refOrder a.f) (refOrder b.f) ≠ 0
  · rw [if_pos h3, if_pos h3]
  rw [if_neg h3, if_neg h3]
  by_cases h4 : refText a.s b.s = 0
  · rw [if_neg (by simpa using h4), h4]
  · rw [if_pos h4]

theorem cells4 (W : World) (t : TypeId) (c1 c2 c3 c4 : Int) (B : Nat) (hB : B = W.heap.size) : ∀ j (hj : j < [c1, c2, c3, c4].length), ((W.alloc (.cells #[.int .i64 c1, .int .i64 c2, .int .i64 c3, .int .i64 c4] t)).drew).cell? ⟨B, j, none⟩ = some (.int .i64 [c1, c2, c3, c4][j]) := by
  intro j hj
  subst hB
  show (W.alloc (.cells #[.int .i64 c1, .int .i64 c2, .int .i64 c3, .int .i64 c4] t)).cell? ⟨W.heap.size, j, none⟩ = _
  rw [cell_of_block (heap_alloc_new _ _)]
  match j, hj with
  | 0, _ => rfl
  | 1, _ => rfl
  | 2, _ => rfl
  | 3, _ => rfl

set_option maxHeartbeats 1000000 in
theorem v_cmp (a b : V) (hfa : a.f < 18446744073709551616) (hfb : b.f < 18446744073709551616) (w : World) : Calls Tryz.prog 92 #[a.val, b.val] w fun e w' => e = .returned (.int .i64 (refCmp a b)) ∧ Touch (fun _ => False) w w' := by
  have HC : Hid (firstNZ [refInts a.k b.k, refInts a.n b.n, refInts (refOrder a.f + 9223372036854775808) (refOrder b.f + 9223372036854775808), refText a.s b.s] = refCmp a b) := refCmp_or a b
  generalize refCmp a b = C at *
  obtain ⟨k, n, f, s⟩ := a
  obtain ⟨k2, n2, f2, s2⟩ := b
  simp only [V.val] at *
  have HO : Hid (∀ w, Calls Tryz.prog 126 #[.float .f64 f] w fun e w' => e = .returned (.int .u64 (refOrder f + 9223372036854775808)) ∧ w' = w) := v_rank f hfa
  have HO2 : Hid (∀ w, Calls Tryz.prog 126 #[.float .f64 f2] w fun e w' => e = .returned (.int .u64 (refOrder f2 + 9223372036854775808)) ∧ w' = w) := v_rank f2 hfb
  have hi := Tryz.underlying73
  go_enter Tryz.func92, Tryz.ntmps92
  go_wp2_with fail
  go_region_held (fun w' => w'.cell? ⟨w.heap.size, 0, none⟩ = some (.int .i64 k) ∧ w'.cell? ⟨w.heap.size, 1, none⟩ = some (.int .i64 n) ∧ w'.cell? ⟨w.heap.size, 2, none⟩ = some (.float .f64 f) ∧ w'.cell? ⟨w.heap.size, 3, none⟩ = some (.string s) ∧ w'.cell? ⟨w.heap.size + 1, 0, none⟩ = some (.int .i64 k2) ∧ w'.cell? ⟨w.heap.size + 1, 1, none⟩ = some (.int .i64 n2) ∧ w'.cell? ⟨w.heap.size + 1, 2, none⟩ = some (.float .f64 f2) ∧ w'.cell? ⟨w.heap.size + 1, 3, none⟩ = some (.string s2)) (go_keep)
    (first
      | (go_at_call 123; refine (cmp_int _ _ _).mono ?_; rintro e w' ⟨rfl, rfl⟩)
      | (go_at_call 124; refine (cmp_int64 _ _ _).mono ?_; rintro e w' ⟨rfl, rfl⟩)
      | (go_at_call 125; refine (cmp_uint64 _ _ _).mono ?_; rintro e w' ⟨rfl, rfl⟩)
      | (go_at_call 127; refine (cmp_string _ _ _).mono ?_; rintro e w' ⟨rfl, rfl⟩)
      | (go_at_call_of 126 (Value.float FloatKind.f64 f); refine (HO.out _).mono ?_; rintro e w' ⟨rfl, rfl⟩)
      | (go_at_call_of 126 (Value.float FloatKind.f64 f2); refine (HO2.out _).mono ?_; rintro e w' ⟨rfl, rfl⟩)
      | (go_at_call 122; refine (cmp_or [refInts k k2, refInts n n2, refInts (refOrder f + 9223372036854775808) (refOrder f2 + 9223372036854775808), refText s s2] 4 rfl _ _ (cells4 _ _ _ _ _ _ _ (by simp)) (by simp)).mono ?_; rintro e w' ⟨rfl, rfl⟩))
  go_wp2_with fail
  go_ret
  exact ⟨congrArg (fun x : Int => Ending.returned (.int .i64 x)) HC.out, ((((Touch.refl _ _).alloc _).alloc _).alloc _).drew⟩

set_option maxHeartbeats 400000 in
theorem v_same (a b : V) (hfa : a.f < 18446744073709551616) (hfb : b.f < 18446744073709551616) (w : World) : Calls Tryz.prog 49 #[a.val, b.val] w fun e w' => e = .returned (.bool (refCmp a b == 0)) ∧ Touch (fun _ => False) w w' := by
  have HK : Hid (∀ w, Calls Tryz.prog 92 #[a.val, b.val] w fun e w' => e = .returned (.int .i64 (refCmp a b)) ∧ Touch (fun _ => False) w w') := v_cmp a b hfa hfb
  generalize refCmp a b = C at *
  obtain ⟨k, n, f, s⟩ := a
  obtain ⟨k2, n2, f2, s2⟩ := b
  simp only [V.val] at *
  go_enter Tryz.func49, Tryz.ntmps49
  go_wp2_with fail
  refine (HK.out _).mono ?_
  rintro e w1 ⟨rfl, hT⟩
  have HT : Hid (Touch (fun _ => False) w w1) := Touch.trans (((Touch.refl _ _).alloc _).alloc _) hT
  clear hT
  go_wp2_with fail
  go_ret
  exact ⟨rfl, HT.out⟩
end Go.Proofs.YtdnhoicfolkbnaaGreat

/- Package marks: Same. -/
namespace Go.Proofs.YtdnhoicfolkbnaaGreat
open Go.RowKit
set_option linter.unusedVariables false
set_option linter.unusedSimpArgs false
set_option maxRecDepth 100000

abbrev Mk.v (a : Mk) : V := ⟨a.vk, a.vn, a.vf, a.vs⟩
abbrev Mk.val (a : Mk) : Value := .agg #[.string a.ky, .int .i64 a.vk, .int .i64 a.vn, .float .f64 a.vf, .string a.vs]
theorem hkY {w W : World} (t : Touch (fun _ => False) w W) {b : Nat} {o : Obj} (h : w.heap[b]? = some o) : W.heap[b]? = some o := (t.block _ (lt_of_heap h) id).trans h
/-- Two marks are alike. -/
def sameK (a b : Mk) : Bool := (a.ky.toList == b.ky.toList) && (refCmp a.v b.v == 0)
def sameL (a b : List Mk) : Bool := decide (a.length = b.length) && (a.zip b).all fun p => sameK p.1 p.2
theorem myO_cells {W : World} {m : Nat} {a : Mk} (h : W.heap[m]? = some (myO a)) : W.cell? ⟨m, 0, none⟩ = some (.string a.ky) ∧ W.cell? ⟨m, 1, none⟩ = some (.int .i64 a.vk) ∧ W.cell? ⟨m, 2, none⟩ = some (.int .i64 a.vn) ∧ W.cell? ⟨m, 3, none⟩ = some (.float .f64 a.vf) ∧ W.cell? ⟨m, 4, none⟩ = some (.string a.vs) :=
  ⟨by rw [cell_of_block h]; rfl, by rw [cell_of_block h]; rfl, by rw [cell_of_block h]; rfl, by rw [cell_of_block h]; rfl, by rw [cell_of_block h]; rfl⟩
set_option maxHeartbeats 4000000 in
theorem same1_any (a b : Mk) (ha : a.vf < 18446744073709551616) (hb : b.vf < 18446744073709551616) (w : World) :
    Calls Tryz.prog 48 #[a.val, b.val] w fun e w' => e = .returned (.bool (sameK a b)) ∧ Touch (fun _ => False) w w' := by
  obtain ⟨E, hE⟩ : ∃ E, Hid (E = (w.alloc (myO a)).alloc (myO b)) := ⟨_, Eq.refl _⟩
  have HTE : Hid (Touch (fun _ => False) w E) := by rw [hE.out]; exact ((Touch.refl _ _).alloc _).alloc _
  obtain ⟨a0, a1, a2, a3, a4⟩ := myO_cells (show E.heap[w.heap.size]? = some (myO a) by rw [hE.out]; exact hkY ((Touch.refl _ _).alloc _) (heap_alloc_new _ _))
  obtain ⟨b0, b1, b2, b3, b4⟩ := myO_cells (show E.heap[w.heap.size + 1]? = some (myO b) by rw [hE.out]; have := heap_alloc_new (w.alloc (myO a)) (myO b); rwa [show (w.alloc (myO a)).heap.size = w.heap.size + 1 from Array.size_push _] at this)
  have HS : Hid (Calls Tryz.prog 49 #[.agg #[.int .i64 a.vk, .int .i64 a.vn, .float .f64 a.vf, .string a.vs], .agg #[.int .i64 b.vk, .int .i64 b.vn, .float .f64 b.vf, .string b.vs]] E fun e w' => e = .returned (.bool (refCmp a.v b.v == 0)) ∧ Touch (fun _ => False) E w') := v_same a.v b.v ha hb E
  have HK : Hid (sameK a b = ((a.ky.toList == b.ky.toList) && (refCmp a.v b.v == 0))) := Eq.refl _
  rw [HK.out]
  clear HK ha hb
  generalize (refCmp a.v b.v == 0) = r at *
  obtain ⟨ak, avk, avn, avf, avs⟩ := a
  obtain ⟨bk, bvk, bvn, bvf, bvs⟩ := b
  simp only at a0 a1 a2 a3 a4 b0 b1 b2 b3 b4 HS ⊢
  go_enter Tryz.func48, Tryz.ntmps48
  go_upto_region 1 with fail
  rw [← hE.out]
  clear hE
  cases hk : (ak.toList == bk.toList) with
  | false =>
    go_wp2_with fail
    go_ret
    exact ⟨by rw [hk]; rfl, HTE.out⟩
  | true =>
    go_wp2_with fail
    refine HS.out.mono ?_
    rintro e W1 ⟨rfl, t1⟩
    have HT1 : Hid (Touch (fun _ => False) w W1) := HTE.out.trans t1
    clear t1 a0 a1 a2 a3 a4 b0 b1 b2 b3 b4
    go_wp2_with fail
    go_ret
    exact ⟨by rw [hk]; rfl, HT1.out⟩
theorem SlY.at {w : World} {ao : Option Addr} {n cap : Nat} {l : List Mk} (h : SlY w (.slice ao n cap) l) (hne : l ≠ []) : ∃ b o, ao = some ⟨b, o, none⟩ ∧ ∀ wr, Touch (fun _ => False) w wr → ∀ j (h : j < l.length), wr.cell? ⟨b, o + j * 5, none⟩ = some (.string l[j].ky) ∧ wr.cell? ⟨b, o + j * 5 + 1, none⟩ = some (.int .i64 l[j].vk) ∧ wr.cell? ⟨b, o + j * 5 + 2, none⟩ = some (.int .i64 l[j].vn) ∧ wr.cell? ⟨b, o + j * 5 + 3, none⟩ = some (.float .f64 l[j].vf) ∧ wr.cell? ⟨b, o + j * 5 + 4, none⟩ = some (.string l[j].vs) := by
  obtain ⟨b, o, c, e, -, -, -, -⟩ := h.row hne
  simp only [Value.slice.injEq] at e
  refine ⟨b, o, e.1, fun wr t j hj => ?_⟩
  obtain ⟨b', o', c', e', -, -, -, hx⟩ := (h.touch t).row hne
  simp only [Value.slice.injEq] at e'
  rw [e.1, Option.some.injEq, Addr.mk.injEq] at e'
  obtain ⟨⟨rfl, rfl, -⟩, -⟩ := e'
  exact hx j hj
theorem sameL_no {a b : List Mk} (h : a.length = b.length) {j : Nat} (ha : j < a.length) (hb : j < b.length) (hk : sameK a[j] b[j] = false) : sameL a b = false := by
  unfold sameL
  rw [Bool.and_eq_false_iff]
  refine .inr ?_
  rw [List.all_eq_false]
  refine ⟨(a[j], b[j]), ?_, by simp [hk]⟩
  rw [List.mem_iff_getElem]
  exact ⟨j, by rw [List.length_zip]; omega, by rw [List.getElem_zip]⟩
theorem sameL_all {a b : List Mk} (h : a.length = b.length) (hk : ∀ j (ha : j < a.length) (hb : j < b.length), sameK a[j] b[j] = true) : sameL a b = true := by
  unfold sameL
  rw [Bool.and_eq_true, decide_eq_true_eq]
  refine ⟨h, ?_⟩
  rw [List.all_eq_true]
  intro p hp
  obtain ⟨j, hj, rfl⟩ := List.mem_iff_getElem.1 hp
  rw [List.getElem_zip]
  rw [List.length_zip] at hj
  exact hk j (by omega) (by omega)
set_option maxHeartbeats 4000000 in
theorem equalF_any {w : World} {va vb : Value} {a b : List Mk} (hA : SlY w va a) (hB : SlY w vb b) (fa : ∀ m ∈ a, m.vf < 18446744073709551616) (fb : ∀ m ∈ b, m.vf < 18446744073709551616) :
    Calls Tryz.prog 47 #[va, vb, .func (.func 48) #[] #[]] w fun e w' => e = .returned (.bool (sameL a b)) ∧ Touch (fun _ => False) w w' := by
  obtain ⟨ao, ac, rfl, a1, a2, a3⟩ := hA.shape
  obtain ⟨bo, bc, rfl, b1, b2, b3⟩ := hB.shape
  have HA : Hid (a ≠ [] → _) := hA.at
  have HB : Hid (b ≠ [] → _) := hB.at
  have HF : Hid (∀ j (h1 : j < a.length) (h2 : j < b.length) W, Calls Tryz.prog 48 #[.agg #[.string a[j].ky, .int .i64 a[j].vk, .int .i64 a[j].vn, .float .f64 a[j].vf, .string a[j].vs], .agg #[.string b[j].ky, .int .i64 b[j].vk, .int .i64 b[j].vn, .float .f64 b[j].vf, .string b[j].vs]] W fun e w' => e = .returned (.bool (sameK a[j] b[j])) ∧ Touch (fun _ => False) W w') := fun j h1 h2 W => same1_any a[j] b[j] (fa _ (List.getElem_mem h1)) (fb _ (List.getElem_mem h2)) W
  clear hA hB fa fb
  by_cases hn : a.length = b.length
  · have HN : Hid (a.length = b.length) := hn
    have HNo : Hid (∀ j (h1 : j < a.length) (h2 : j < b.length), sameK a[j] b[j] = false → sameL a b = false) := fun j h1 h2 => sameL_no hn h1 h2
    have HAll : Hid ((∀ j (ha : j < a.length) (hb : j < b.length), sameK a[j] b[j] = true) → sameL a b = true) := sameL_all hn
    have hnb : ((a.length : Int) != (b.length : Int)) = false := by simp [hn]
    clear hn
    generalize sameL a b = R at *
    go_enter Tryz.func47, Tryz.ntmps47
    go_wp2_with fail
    clear hnb
    go_loopw [17] (fun i wr => ∃ j : Nat, i = .int .i64 (j : Int) ∧ j ≤ a.length ∧ Touch (fun _ => False) w wr ∧ ∀ k (h1 : k < a.length) (h2 : k < b.length), k < j → sameK a[k] b[k] = true) (fun i _ => a.length - (intOf i).toNat)
    case atStart => exact ⟨0, rfl, Nat.zero_le _, Touch.refl _ _, fun k _ _ h => absurd h (Nat.not_lt_zero _)⟩
    case round =>
      obtain ⟨j, rfl, hj, hT, hk⟩ := hrel
      by_cases hlt : j < a.length
      · have hltb : j < b.length := by rw [← HN.out]; exact hlt
        obtain ⟨ab, ax, rfl, hca⟩ := HA.out (by intro e; subst e; simp at hlt)
        obtain ⟨bb, bx, rfl, hcb⟩ := HB.out (by intro e; subst e; simp at hltb)
        obtain ⟨x0, x1, x2, x3, x4⟩ := hca wr hT j hlt
        obtain ⟨y0, y1, y2, y3, y4⟩ := hcb (wr.alloc (myO a[j])) (hT.alloc _) j hltb
        have HC := HF.out j hlt hltb
        have HK : Hid (∀ k (h1 : k < a.length) (h2 : k < b.length), k < j → sameK a[k] b[k] = true) := hk
        have HNj : Hid (sameK a[j] b[j] = false → R = false) := HNo.out j hlt hltb
        have HT : Hid (Touch (fun _ => False) w wr) := hT
        have HLt : Hid (j < a.length ∧ j < b.length) := ⟨hlt, hltb⟩
        have hi1 : (0 : Int) ≤ (j : Int) := by omega
        have hi2 : (j : Int) < (a.length : Int) := by omega
        have hi3 : (j : Int) < (b.length : Int) := by omega
        have hjm : (j : Int) + 1 < 9223372036854775808 := by omega
        have HU : Hid (∀ W, Touch (fun _ => False) ((wr.alloc (myO a[j])).alloc (myO b[j])) W → sameK a[j] b[j] = true → ∃ j' : Nat, (.int .i64 ((j : Int) + 1) : Value) = .int .i64 (j' : Int) ∧ j' ≤ a.length ∧ Touch (fun _ => False) w W ∧ ∀ k (h1 : k < a.length) (h2 : k < b.length), k < j' → sameK a[k] b[k] = true) := fun W t e => ⟨j + 1, by go_num, by omega, ((hT.alloc _).alloc _).trans t, fun k h1 h2 h3 => by
          rcases Nat.lt_or_eq_of_le (Nat.le_of_lt_succ h3) with h | h
          · exact hk k h1 h2 h
          · subst h; exact e⟩
        have HV : Hid (∀ W, Touch (fun _ => False) ((wr.alloc (myO a[j])).alloc (myO b[j])) W → Touch (fun _ => False) w W) := fun W t => ((hT.alloc _).alloc _).trans t
        have hm0 : Hid (a.length - (j + 1) < a.length - j) := by rw [Hid]; omega
        clear hk hT hca hcb HA HB HF HN HNo HAll a1 b1 HLt HK HT hj
        generalize a[j] = x at *
        generalize b[j] = y at *
        clear hlt hltb
        have bx := heap_alloc_new wr (myO x)
        have by_ := heap_alloc_new (wr.alloc (myO x)) (myO y)
        rw [show (wr.alloc (myO x)).heap.size = wr.heap.size + 1 from Array.size_push _] at by_
        obtain ⟨p0, p1, p2, p3, p4⟩ := myO_cells (hkY ((Touch.refl _ _).alloc (myO y)) bx)
        obtain ⟨r0, r1, r2, r3, r4⟩ := myO_cells by_
        clear bx by_
        have HC' : Hid (∀ W, Calls Tryz.prog 48 #[.agg #[.string x.ky, .int .i64 x.vk, .int .i64 x.vn, .float .f64 x.vf, .string x.vs], .agg #[.string y.ky, .int .i64 y.vk, .int .i64 y.vn, .float .f64 y.vf, .string y.vs]] W fun e w' => e = .returned (.bool (sameK x y)) ∧ Touch (fun _ => False) W w') := HC
        clear HC
        generalize sameK x y = sk at *
        obtain ⟨xk, xvk, xvn, xvf, xvs⟩ := x
        obtain ⟨yk, yvk, yvn, yvf, yvs⟩ := y
        simp only at x0 x1 x2 x3 x4 y0 y1 y2 y3 y4 p0 p1 p2 p3 p4 r0 r1 r2 r3 r4 HC'
        have hst := run_store_f64 Tryz.prog
        go_wp2_with fail
        clear hst
        refine (HC'.out _).mono ?_
        rintro e W2 ⟨rfl, t2⟩
        cases sk with
        | false =>
          have HR : Hid (R = false) := HNj.out rfl
          have HT2 : Hid (Touch (fun _ => False) w W2) := HV.out W2 t2
          clear t2 HV HU
          go_wp2_with fail
          go_ret
          exact ⟨by rw [HR.out]; rfl, HT2.out⟩
        | true =>
          have HU2 := HU.out W2 t2 rfl
          have HU3 : Hid _ := HU2
          clear t2 HV HU HU2
          go_wp2_with fail
          go_roundw
          case rel => exact HU3.out
          case measure => simp only [intOf]; have := hm0.out; omega
      · have hR : Hid (R = true) := HAll.out fun k h1 h2 => hk k h1 h2 (by omega)
        have hi2 : ¬ (j : Int) < (a.length : Int) := by omega
        have HT : Hid (Touch (fun _ => False) w wr) := hT
        clear hk hT hlt HA HB HF HN HNo HAll a1 b1 hj
        go_wp2_with fail
        go_ret
        exact ⟨by rw [hR.out]; rfl, HT.out⟩
  · have hnb : ((a.length : Int) != (b.length : Int)) = true := by simp; omega
    have HR : Hid (sameL a b = false) := by unfold sameL; rw [Hid, decide_eq_false hn]; rfl
    rw [HR.out]
    clear HR HA HB HF hn
    go_enter Tryz.func47, Tryz.ntmps47
    go_wp2_with fail
    go_ret
    exact ⟨rfl, Touch.refl _ _⟩
set_option maxHeartbeats 4000000 in
theorem msame_any {w : World} {va vb : Value} {a b : List Mk} (hA : SlY w va a) (hB : SlY w vb b) (fa : ∀ m ∈ a, m.vf < 18446744073709551616) (fb : ∀ m ∈ b, m.vf < 18446744073709551616) :
    Calls Tryz.prog 26 #[va, vb] w fun e w' => e = .returned (.bool (sameL a b)) ∧ Touch (fun _ => False) w w' := by
  have HE : Hid (Calls Tryz.prog 47 #[va, vb, .func (.func 48) #[] #[]] w fun e w' => e = .returned (.bool (sameL a b)) ∧ Touch (fun _ => False) w w') := equalF_any hA hB fa fb
  obtain ⟨ao, ac, rfl, -, -, -⟩ := hA.shape
  obtain ⟨bo, bc, rfl, -, -, -⟩ := hB.shape
  clear hA hB fa fb
  generalize sameL a b = R at *
  generalize a.length = na at *
  generalize b.length = nb at *
  go_enter Tryz.func26, Tryz.ntmps26
  go_wp2_with fail
  refine HE.out.mono ?_
  rintro e W1 ⟨rfl, t1⟩
  have HT : Hid (Touch (fun _ => False) w W1) := t1
  clear t1
  go_wp2_with fail
  go_ret
  exact ⟨rfl, HT.out⟩
end Go.Proofs.YtdnhoicfolkbnaaGreat

/- quirelaw11.mark. -/
namespace Go.Proofs.YtdnhoicfolkbnaaGreat
open Go.RowKit
set_option linter.unusedVariables false
set_option linter.unusedSimpArgs false
set_option maxRecDepth 100000

/-- An operation as mark makes it. -/
abbrev markK (ck st : Int) (ky : ByteArray) (n fc fk : Int) (fa : Bool) (tc tk : Int) (ta : Bool) : O := ⟨5, ck, 3, st, 0, 0, 0, 0, ⟨#[]⟩, 2, n, 0, ⟨#[]⟩, ky, 0, 0, fc, fk, fa, tc, tk, ta⟩
theorem anO_cells {W : World} {m : Nat} {c k : Int} {f : Bool} (h : W.heap[m]? = some (anO c k f)) : W.cell? ⟨m, 0, none⟩ = some (.int .u64 c) ∧ W.cell? ⟨m, 1, none⟩ = some (.int .u64 k) ∧ W.cell? ⟨m, 2, none⟩ = some (.bool f) :=
  ⟨by rw [cell_of_block h]; rfl, by rw [cell_of_block h]; rfl, by rw [cell_of_block h]; rfl⟩
set_option maxHeartbeats 4000000 in
theorem mark_any (ck st : Int) (ky : ByteArray) (n fc fk : Int) (fa : Bool) (tc tk : Int) (ta : Bool) (w : World) :
    Calls Tryz.prog 25 #[.int .u64 ck, .int .u64 st, .string ky, .int .i64 n, .agg #[.int .u64 fc, .int .u64 fk, .bool fa], .agg #[.int .u64 tc, .int .u64 tk, .bool ta]] w fun e w' => e = .returned (markK ck st ky n fc fk fa tc tk ta).val ∧ Touch (fun _ => False) w w' := by
  obtain ⟨E, hE⟩ : ∃ E, Hid (E = ((w.alloc (anO fc fk fa)).alloc (anO tc tk ta)).alloc zeroOp) := ⟨_, Eq.refl _⟩
  have HTE : Hid (Touch (fun _ => False) w E) := by rw [hE.out]; exact (((Touch.refl _ _).alloc _).alloc _).alloc _
  have e1 : E.heap[w.heap.size]? = some (anO fc fk fa) := by
    rw [hE.out]
    exact heap_keep (((Touch.refl _ _).alloc _).alloc _) (heap_alloc_new _ _)
  have e2 : E.heap[w.heap.size + 1]? = some (anO tc tk ta) := by
    have := heap_alloc_new (w.alloc (anO fc fk fa)) (anO tc tk ta)
    rw [show (w.alloc (anO fc fk fa)).heap.size = w.heap.size + 1 from Array.size_push _] at this
    rw [hE.out]
    exact heap_keep ((Touch.refl _ _).alloc _) this
  have HE3 : Hid (E.heap[w.heap.size + 1 + 1]? = some zeroOp) := by
    have := heap_alloc_new ((w.alloc (anO fc fk fa)).alloc (anO tc tk ta)) zeroOp
    rw [show ((w.alloc (anO fc fk fa)).alloc (anO tc tk ta)).heap.size = w.heap.size + 1 + 1 from by simp] at this
    rw [hE.out]
    exact this
  obtain ⟨a0, a1, a2⟩ := anO_cells e1
  obtain ⟨b0, b1, b2⟩ := anO_cells e2
  clear e1 e2
  obtain ⟨W2, hW2⟩ : ∃ W2, Hid (W2 = E.setCells (w.heap.size + 1 + 1) 0 (markK ck st ky n fc fk fa tc tk ta).vals.toList) := ⟨_, Eq.refl _⟩
  have HW2 : Hid (Touch (fun _ => False) w W2 ∧ W2.heap[w.heap.size + 1 + 1]? = some (opO (markK ck st ky n fc fk fa tc tk ta))) := by
    rw [hW2.out]
    refine ⟨HTE.out.stored (by omega) 0 _, ?_⟩
    rw [cells_storedS HE3.out]
    kernel_rfl
  go_enter Tryz.func25, Tryz.ntmps25
  go_upto_region 1 with fail
  rw [← hE.out]
  clear hE
  refine wp_region_lit ?_
  iterate 9 (refine wpList_plain rfl fun K hK => ?_; go_simp; refine hK _ _ ?_; clear hK K)
  refine wpList_store_mid rfl 31 (.tmp 12) (.tmp 21) rfl (w.heap.size + 1 + 1) 0 (markK ck st ky n fc fk fa tc tk ta).vals rfl rfl (there_ofS HE3.out 0 22 (by decide)) (by kernel_rfl) (by kernel_rfl) ?_
  simp only [Act.put]
  rw [← hW2.out]
  clear hW2 HE3 a0 a1 a2 b0 b1 b2
  have hLd := run_loadVar_mid (P := Tryz.prog) W2 (w.heap.size + 1 + 1) 0 31 (markK ck st ky n fc fk fa tc tk ta).vals.toList _ (rangeAt_ofS HW2.out.2) Tryz.underlying31 rfl (by kernel_rfl)
  go_wp2_with fail
  refine bodyPost_ret (v := (markK ck st ky n fc fk fa tc tk ta).val) (by simp [results, Tryz.results25, asAddr, hLd]) rfl ?_
  exact ⟨rfl, HW2.out.1⟩
end Go.Proofs.YtdnhoicfolkbnaaGreat

/- A sequence in memory is read. -/
namespace Go.Proofs.YtdnhoicfolkbnaaGreat
open Go.RowKit
set_option linter.unusedVariables false
set_option linter.unusedSimpArgs false

theorem find_bounds {S : SS} (h : Inv S) {c k : Int} (hc : 0 ≤ c) (hk : 0 ≤ k) : -1 ≤ S.find c k ∧ S.find c k < (S.units.length : Int) := by
  by_cases e : S.find c k = -1
  · omega
  · obtain ⟨m, hm, e2, -, -⟩ := h.units_find hc hk e
    omega
theorem Sq1.rd {w W : World} {pa : Nat} {A : Bk} {S : SS} (a : Sq1 w W pa A S) (hn : S.units.length ≤ 1000000) : SeqRd W pa S :=
  ⟨fun W' t => (a.touch t).len, fun W' c' k' t h1 h2 h3 => (a.touch t).find c' k' h1 h2 h3, hn, fun c' k' h1 h2 => find_bounds a.inv h1 h2⟩
/-- A sequence is read wherever its blocks lie as they lay. -/
theorem Sq1.rdR {w W wr : World} {pa : Nat} {A : Bk} {S : SS} {R : Nat → Prop} (a : Sq1 w W pa A S) (hn : S.units.length ≤ 1000000) (hR : ∀ k, A.has k → R k) (t : Touch (fun k => ¬ R k) W wr) : SeqRd wr pa S :=
  Sq1.rd (w := w) (A := A) ⟨a.mem.keep t fun k hk h => h (hR k hk), a.at_, a.new, a.inv⟩ hn
end Go.Proofs.YtdnhoicfolkbnaaGreat

/- Package seq: Run on a sequence side by side with others. -/
namespace Go.Proofs.YtdnhoicfolkbnaaGreat
open Go.RowKit
set_option linter.unusedVariables false
set_option linter.unusedSimpArgs false
set_option maxRecDepth 100000

theorem run_low {S : SS} {u : Un} {n : Int} (hn : n < 1) : S.may u n = false ∧ S.run u n = S := by
  have : S.may u n = false := by
    cases hm : S.may u n with
    | false => rfl
    | true => have := (may_iff.1 hm).2.1; omega
  exact ⟨this, by unfold SS.run; rw [this]; rfl⟩
theorem Inv.runN {S : SS} (h : Inv S) {u : Un} (hu : u.ok) (n : Int) (hn : n ≤ 1000) {k : Nat} (hz : Size S k) (hk : k ≤ 100000) : Inv (S.run u n) ∧ Size (S.run u n) (k + n.toNat) := by
  by_cases h1 : n < 1
  · rw [(run_low h1).2]; exact ⟨h, hz.mono (by omega)⟩
  · have a := hz.tot
    have b := hz.pcs
    have c := hz.runs
    obtain ⟨r1, r2, r3, r4⟩ := h.runI (u := u) (n := n) hu (fun _ => by omega) (by omega) (by omega)
    refine ⟨r1, ?_, by omega, by omega⟩
    rw [r2]
    split <;> omega
theorem Sq1.runN {w0 w : World} {p : Nat} {B : Bk} {S : SS} (h : Sq1 w0 w p B S) (u : Un) (hu : u.ok) (n : Int) (hn : -1000 ≤ n ∧ n ≤ 1000) {k : Nat} (hz : Size S k) (hk : k ≤ 100000) :
    Calls Tryz.prog 31 #[.pointer (some ⟨p, 0, none⟩), .agg #[.int .u64 u.c, .int .u64 u.k, .int .u64 u.lc, .int .u64 u.lk, .int .u64 u.rc, .int .u64 u.rk], .int .i64 n] w fun e w' => e = .returned (.bool (S.may u n)) ∧ ∃ B', Sq1 w0 w' p B' (S.run u n) ∧ (∀ x, B'.has x → B.has x ∨ w.heap.size ≤ x) ∧ Touch B.has w w' := by
  have hp := h.at_
  subst hp
  refine (h.mem.run h.inv u hu n 1000 (by omega) (by omega) (by omega) (hz.room (by omega) 1000 (by omega))).mono ?_
  rintro e w' ⟨rfl, B', a, b, c, d⟩
  refine ⟨rfl, B', ⟨a, b, fun k hk => ?_, (h.inv.runN hu n hn.2 hz hk).1⟩, c, d⟩
  rcases c k hk with e | e
  · exact h.new k e
  · obtain ⟨c', hc⟩ := h.mem.blk
    have h1 := lt_of_heap hc
    have h2 := h.new B.b (.inl rfl)
    omega
end Go.Proofs.YtdnhoicfolkbnaaGreat
