/- Package maps: Is. -/
import Derived.Test.YtegldlfbmaapiaaPart12
import Derived.Test.YtegldlfbmaapiaaMpW
import Derived.BigQuiet
import Derived.Deep.RegionHeld3
import Derived.Test.YtegldlfbmaapiaaPart11
import Derived.Test.YtegldlfbmaapiaaPart9
namespace Go.Proofs.Ytegldlfbmaapiaa
open Go.RowKit Go.Maps
set_option linter.unusedVariables false
set_option linter.unusedSimpArgs false
set_option maxRecDepth 100000

section
variable {w : World} {g mt mk : Nat} {hv : Value} {os : List (Key × Inn)} {s : MS}
theorem MapsC.getK (h : MapsC w g mt mk hv os s) (k : Key) : aget k s.keys = (aget k os).map innL := by rw [h.eq, aget_amap]
theorem inn_map (k : Key) (os : List (Key × Inn)) : ∃ m, (aget k (amap innV os)).getD (.map none) = .map m ∧ m = (aget k os).map Inn.b := by
  rw [aget_amap]
  cases aget k os with
  | none => exact ⟨none, rfl, rfl⟩
  | some i => exact ⟨some i.b, rfl, rfl⟩
theorem MapsC.c0 (h : MapsC w g mt mk hv os s) : w.cell? ⟨g, 0, none⟩ = some (.map (some mt)) := by rw [cell_of_block h.cells]; rfl
theorem MapsC.c1 (h : MapsC w g mt mk hv os s) : w.cell? ⟨g, 1, none⟩ = some (.map (some mk)) := by rw [cell_of_block h.cells]; rfl
theorem MapsC.c2 (h : MapsC w g mt mk hv os s) : w.cell? ⟨g, 2, none⟩ = some hv := by rw [cell_of_block h.cells]; rfl
theorem MapsC.quiet (h : MapsC w g mt mk hv os s) {W : World} (t : Touch (fun _ => False) w W) : MapsC W g mt mk hv os s := h.touch t fun _ _ => id
/-- What tells a map that is there. -/
def isS (s : MS) (c k : Int) : Bool := (aget (kI c k) s.keys).isSome
theorem MapsC.isS (h : MapsC w g mt mk hv os s) (c k : Int) : Proofs.Ytegldlfbmaapiaa.isS s c k = (aget (kI c k) (amap innV os)).isSome := by
  unfold Proofs.Ytegldlfbmaapiaa.isS
  rw [h.getK, aget_amap]
  cases aget (kI c k) os <;> rfl
set_option maxHeartbeats 4000000 in
theorem isC_any (h : MapsC w g mt mk hv os s) {c k : Int} (hc : U64 c) (hk : U64 k) :
    Calls Try.prog 11 #[.pointer (some ⟨g, 0, none⟩), idV c k] w fun e w' => e = .returned (.bool (isS s c k)) ∧ Touch (fun _ => False) w w' := by
  obtain ⟨E, hE⟩ : ∃ E, Hid (E = w.alloc (idO c k)) := ⟨_, Eq.refl _⟩
  have HTE : Hid (Touch (fun _ => False) w E) := by rw [hE.out]; exact (Touch.refl _ _).alloc _
  have hB : E.heap[w.heap.size]? = some (idO c k) := by rw [hE.out]; exact heap_alloc_new _ _
  have hEd : Touch (fun _ => False) E E.drew := (Touch.refl _ _).drew
  have b0 : E.drew.cell? ⟨w.heap.size, 0, none⟩ = some (.int .u64 c) := by rw [cell_of_block (show E.drew.heap[w.heap.size]? = _ from hB)]; rfl
  have b1 : E.drew.cell? ⟨w.heap.size, 1, none⟩ = some (.int .u64 k) := by rw [cell_of_block (show E.drew.heap[w.heap.size]? = _ from hB)]; rfl
  have hm := h.quiet (HTE.out.trans hEd)
  have g1 := hm.c1
  obtain ⟨m, e1, -⟩ := inn_map (kI c k) os
  have L := keys_look2 hm.keys hc hk
  rw [e1, ← h.isS c k] at L
  generalize isS s c k = b at *
  clear hm hB hEd h
  go_enter Try.func11, Try.ntmps11
  go_upto_region 1 with fail
  rw [← hE.out]
  clear hE
  go_region
  all_goals (go_wp2_with fail)
  all_goals go_ret
  all_goals exact ⟨rfl, HTE.out.trans ⟨rfl, rfl, rfl, Nat.le_refl _, fun _ _ _ => rfl⟩⟩
end
end Go.Proofs.Ytegldlfbmaapiaa

/- The contracts of value's empty, asFloat. -/
namespace Go.Proofs.Ytegldlfbmaapiaa
open Go.RowKit
set_option linter.unusedVariables false
set_option maxRecDepth 100000

/-- Nothing but a kind. -/
def vEmpty (v : V) : Bool := (v.n == 0) && ((v.f : Int) == 0) && v.s.toList.isEmpty
/-- The number as a float, and whether it is one. -/
def vNum (v : V) : Nat := if isNum v then vFloat v else 0
end Go.Proofs.Ytegldlfbmaapiaa

/- The contract of value.Clean. -/
namespace Go.Proofs.Ytegldlfbmaapiaa
open Go.RowKit
set_option linter.unusedVariables false
set_option maxRecDepth 100000

/-- A NaN's bits are the one NaN's, whatever the kind. -/
def vClean (v : V) : V := ⟨v.k, v.n, refBits v.f, v.s⟩
set_option maxHeartbeats 400000 in
theorem v_clean (v : V) (w : World) : Calls Try.prog 22 #[v.val] w fun e w' => e = .returned (vClean v).val ∧ Touch (fun _ => False) w w' := by
  obtain ⟨k, n, f, s⟩ := v
  have HB : Hid (∀ w, Calls Try.prog 46 #[.float .f64 f] w fun e w' => e = .returned (.float .f64 (refBits f)) ∧ w' = w) := v_oneNaN f
  simp only [V.val, vClean] at *
  generalize refBits f = g at *
  have h2 := run_store_f64 Try.prog
  go_enter Try.func22, Try.ntmps22
  go_wp2_with fail
  refine (HB.out _).mono ?_
  rintro e w1 ⟨rfl, rfl⟩
  go_wp2_with fail
  refine bodyPost_ret (v := .agg #[.int .i64 k, .int .i64 n, .float .f64 g, .string s]) (by simp [results, Try.results22, go_sem]) rfl ⟨rfl, ?_⟩
  first
    | exact ((Touch.refl _ _).alloc _).alloc _
    | exact (((((((Touch.refl _ _).alloc _).alloc _).setCell _ _ (fun h => by simp only at h; omega)).setCell _ _ (fun h => by simp only at h; omega)).setCell _ _ (fun h => by simp only at h; omega)).setCell _ _ (fun h => by simp only at h; omega)).setCell _ _ (fun h => by simp only at h; omega)
end Go.Proofs.Ytegldlfbmaapiaa

/- Package maps: Set, where it refuses. -/
namespace Go.Proofs.Ytegldlfbmaapiaa
open Go.RowKit Go.Maps
set_option linter.unusedVariables false
set_option linter.unusedSimpArgs false
set_option maxRecDepth 100000

/-- Whether a set can be laid. -/
def okS (s : MS) (o : O) : Bool := decide (o.kind = 4) && (numOk o.c && numOk o.k) && isS s o.pc o.pk && (aget (kI o.c o.k) s.told).isNone
theorem O.fits.uc {o : O} (h : o.fits) : U64 o.c := ⟨h.c0.1, by have := h.c0.2; omega⟩
theorem O.fits.uk {o : O} (h : o.fits) : U64 o.k := ⟨h.k0.1, by have := h.k0.2; omega⟩
theorem O.fits.upc {o : O} (h : o.fits) : U64 o.pc := ⟨h.pc.1, by have := h.pc.2; omega⟩
theorem O.fits.upk {o : O} (h : o.fits) : U64 o.pk := ⟨h.pk.1, by have := h.pk.2; omega⟩
section
variable {w : World} {g mt mk : Nat} {hv : Value} {os : List (Key × Inn)} {s : MS}
set_option maxHeartbeats 8000000 in
theorem set_no (h : MapsC w g mt mk hv os s) (o : O) (hf : o.fits) (hno : okS s o = false) :
    Calls Try.prog 10 #[.pointer (some ⟨g, 0, none⟩), o.val] w fun e w' => e = .returned (.bool false) ∧ Touch (fun _ => False) w w' := by
  obtain ⟨E, hE⟩ : ∃ E, Hid (E = w.alloc (opO o)) := ⟨_, Eq.refl _⟩
  have HTE : Hid (Touch (fun _ => False) w E) := by rw [hE.out]; exact (Touch.refl _ _).alloc _
  have HB : Hid (OpAt w.heap.size o E) := by rw [hE.out]; exact heap_alloc_new _ _
  have q0 := HB.out.q0
  have q1 := HB.out.q1
  have q2 := HB.out.q2
  have q14 := HB.out.q14
  have q15 := HB.out.q15
  have HR : Hid (∀ W, Calls Try.prog 21 #[idV o.c o.k] W fun e w' => e = .returned (.bool (numOk o.c && numOk o.k)) ∧ Touch (fun _ => False) W w') := fun W => (right_any o.c o.k W).mono fun e w' q => ⟨q.1, by rw [q.2]; exact (Touch.refl _ _).alloc _⟩
  have HI : Hid (∀ W, Touch (fun _ => False) w W → Calls Try.prog 11 #[.pointer (some ⟨g, 0, none⟩), idV o.pc o.pk] W fun e w' => e = .returned (.bool (isS s o.pc o.pk)) ∧ Touch (fun _ => False) W w') := fun W t => isC_any (h.quiet t) hf.upc hf.upk
  have HL : Hid (∀ W, Touch (fun _ => False) w W → W.cell? ⟨g, 0, none⟩ = some (.map (some mt)) ∧ (Instr.lookup 65 (.map (some mt)) (idV o.c o.k) true).run Try.prog W = .ok (.tuple #[.agg #[], .bool (aget (kI o.c o.k) s.told).isSome]) W) := fun W t => by
    have hm := h.quiet t
    refine ⟨hm.c0, ?_⟩
    have := told_look hm.told hf.uc hf.uk
    rw [aget_amap] at this
    rw [this]
    cases aget (kI o.c o.k) s.told <;> rfl
  have HK : Hid (∀ W, Touch (fun _ => False) w W → W.cell? ⟨w.heap.size, 0, none⟩ = some (.int .u64 o.c) ∧ W.cell? ⟨w.heap.size, 1, none⟩ = some (.int .u64 o.k) ∧ W.cell? ⟨w.heap.size, 2, none⟩ = some (.int .i64 o.kind) ∧ W.cell? ⟨w.heap.size, 14, none⟩ = some (.int .u64 o.pc) ∧ W.cell? ⟨w.heap.size, 15, none⟩ = some (.int .u64 o.pk) → True) := fun _ _ _ => trivial
  have HKe : Hid (∀ W, Touch (fun _ => False) E W → W.cell? ⟨w.heap.size, 0, none⟩ = some (.int .u64 o.c) ∧ W.cell? ⟨w.heap.size, 1, none⟩ = some (.int .u64 o.k) ∧ W.cell? ⟨w.heap.size, 14, none⟩ = some (.int .u64 o.pc) ∧ W.cell? ⟨w.heap.size, 15, none⟩ = some (.int .u64 o.pk)) := fun W t => by
    have := HB.out.keep t
    exact ⟨this.q0, this.q1, this.q14, this.q15⟩
  have HN : Hid ((decide (o.kind = 4) && (numOk o.c && numOk o.k) && isS s o.pc o.pk && (aget (kI o.c o.k) s.told).isNone) = false) := hno
  have hnone : (aget (kI o.c o.k) s.told).isNone = !(aget (kI o.c o.k) s.told).isSome := by cases aget (kI o.c o.k) s.told <;> rfl
  rw [hnone] at HN
  clear HK h hf hno hnone
  generalize (numOk o.c && numOk o.k) = rb at *
  generalize isS s o.pc o.pk = ib at *
  generalize (aget (kI o.c o.k) s.told).isSome = tb at *
  obtain ⟨kd, hkd⟩ : ∃ kd, kd = o.kind := ⟨_, rfl⟩
  rw [← hkd] at q2 HN
  clear hkd
  by_cases hk : kd = 4
  · subst hk
    have HN2 : Hid ((rb && ib && !tb) = false) := by have := HN.out; rw [show decide ((4 : Int) = 4) = true from by decide, Bool.true_and] at this; exact this
    clear HN
    cases rb with
    | false =>
      clear HN2 HI HL
      go_enter Try.func10, Try.ntmps10
      go_upto_region 1 with fail
      rw [← hE.out]
      clear hE
      go_wp2_with fail
      refine (HR.out _).mono ?_
      rintro e W1 ⟨rfl, t1⟩
      have HT1 : Hid (Touch (fun _ => False) w W1) := HTE.out.trans t1
      clear t1 q0 q1 q2 q14 q15
      go_wp2_with fail
      go_ret
      exact ⟨rfl, HT1.out⟩
    | true =>
      cases ib with
      | false =>
        clear HN2 HL
        go_enter Try.func10, Try.ntmps10
        go_upto_region 1 with fail
        rw [← hE.out]
        clear hE
        go_wp2_with fail
        refine (HR.out _).mono ?_
        rintro e W1 ⟨rfl, t1⟩
        have HT1 : Hid (Touch (fun _ => False) w W1) := HTE.out.trans t1
        obtain ⟨k0, k1, k14, k15⟩ := HKe.out _ t1
        clear t1 q0 q1 q2 q14 q15 k0 k1
        go_wp2_with fail
        refine (HI.out _ HT1.out).mono ?_
        rintro e W2 ⟨rfl, t2⟩
        have HT2 : Hid (Touch (fun _ => False) w W2) := HT1.out.trans t2
        clear t2 k14 k15
        go_wp2_with fail
        go_ret
        exact ⟨rfl, HT2.out⟩
      | true =>
        cases tb with
        | false => exact absurd HN2.out (by decide)
        | true =>
          clear HN2
          go_enter Try.func10, Try.ntmps10
          go_upto_region 1 with fail
          rw [← hE.out]
          clear hE
          go_wp2_with fail
          refine (HR.out _).mono ?_
          rintro e W1 ⟨rfl, t1⟩
          have HT1 : Hid (Touch (fun _ => False) w W1 ∧ Touch (fun _ => False) E W1) := ⟨HTE.out.trans t1, t1⟩
          obtain ⟨k0, k1, k14, k15⟩ := HKe.out _ t1
          clear t1 q0 q1 q2 q14 q15 k0 k1
          go_wp2_with fail
          refine (HI.out _ HT1.out.1).mono ?_
          rintro e W2 ⟨rfl, t2⟩
          have HT2 : Hid (Touch (fun _ => False) w W2 ∧ Touch (fun _ => False) E W2) := ⟨HT1.out.1.trans t2, HT1.out.2.trans t2⟩
          clear t2 k14 k15 HT1
          have td : Touch (fun _ => False) W2 (W2.alloc (.cells #[] 71)).drew := ((Touch.refl _ _).alloc _).drew
          obtain ⟨k0, k1, k14, k15⟩ := HKe.out _ (HT2.out.2.trans td)
          obtain ⟨g0, L⟩ := HL.out _ (HT2.out.1.trans td)
          have td2 : Touch (fun _ => False) W2 W2.drew := (Touch.refl _ _).drew
          obtain ⟨k0', k1', k14', k15'⟩ := HKe.out _ (HT2.out.2.trans td2)
          obtain ⟨g0', L'⟩ := HL.out _ (HT2.out.1.trans td2)
          clear k14 k15 td k14' k15' td2
          go_upto_region 3 with fail
          go_region
          all_goals (go_wp2_with fail)
          all_goals go_ret
          all_goals first
            | exact ⟨rfl, HT2.out.1.trans ((Touch.refl _ _).alloc _).drew⟩
            | exact ⟨rfl, HT2.out.1.trans ((Touch.refl _ _).drew.alloc _)⟩
  · clear HN HI HL HR q0 q1 q14 q15
    have hkb : (kd == 4) = false := by simpa using hk
    go_enter Try.func10, Try.ntmps10
    go_upto_region 1 with fail
    rw [← hE.out]
    clear hE
    go_wp2_with fail
    go_ret
    exact ⟨rfl, HTE.out⟩
end
end Go.Proofs.Ytegldlfbmaapiaa
