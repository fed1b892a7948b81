/- Package maps: Is. -/
import Derived.Test.YtodpdcflbnomgaaGreatPart10
import Derived.Test.YtodpdcflbnomgaaGreatMpW
import Derived.BigQuiet
import Derived.Deep.RegionHeld3
import Derived.Test.YtodpdcflbnomgaaGreatPart8
namespace Go.Proofs.YtodpdcflbnomgaaGreat
open Go.RowKit Go.Maps
set_option linter.unusedVariables false
set_option linter.unusedSimpArgs false
set_option maxRecDepth 100000

section
variable {w : World} {g mt mk : Nat} {hv : Value} {os : List (Key × Inn)} {s : MS}
theorem MapsC.getK (h : MapsC w g mt mk hv os s) (k : Key) : aget k s.keys = (aget k os).map innL := by rw [h.eq, aget_amap]
theorem inn_map (k : Key) (os : List (Key × Inn)) : ∃ m, (aget k (amap innV os)).getD (.map none) = .map m ∧ m = (aget k os).map Inn.b := by
  rw [aget_amap]
  cases aget k os with
  | none => exact ⟨none, rfl, rfl⟩
  | some i => exact ⟨some i.b, rfl, rfl⟩
theorem MapsC.c0 (h : MapsC w g mt mk hv os s) : w.cell? ⟨g, 0, none⟩ = some (.map (some mt)) := by rw [cell_of_block h.cells]; rfl
theorem MapsC.c1 (h : MapsC w g mt mk hv os s) : w.cell? ⟨g, 1, none⟩ = some (.map (some mk)) := by rw [cell_of_block h.cells]; rfl
theorem MapsC.c2 (h : MapsC w g mt mk hv os s) : w.cell? ⟨g, 2, none⟩ = some hv := by rw [cell_of_block h.cells]; rfl
theorem MapsC.quiet (h : MapsC w g mt mk hv os s) {W : World} (t : Touch (fun _ => False) w W) : MapsC W g mt mk hv os s := h.touch t fun _ _ => id
/-- What tells a map that is there. -/
def isS (s : MS) (c k : Int) : Bool := (aget (kI c k) s.keys).isSome
theorem MapsC.isS (h : MapsC w g mt mk hv os s) (c k : Int) : Proofs.YtodpdcflbnomgaaGreat.isS s c k = (aget (kI c k) (amap innV os)).isSome := by
  unfold Proofs.YtodpdcflbnomgaaGreat.isS
  rw [h.getK, aget_amap]
  cases aget (kI c k) os <;> rfl
set_option maxHeartbeats 4000000 in
theorem isC_any (h : MapsC w g mt mk hv os s) {c k : Int} (hc : U64 c) (hk : U64 k) :
    Calls Tryz.prog 18 #[.pointer (some ⟨g, 0, none⟩), idV c k] w fun e w' => e = .returned (.bool (isS s c k)) ∧ Touch (fun _ => False) w w' := by
  obtain ⟨E, hE⟩ : ∃ E, Hid (E = w.alloc (idO c k)) := ⟨_, Eq.refl _⟩
  have HTE : Hid (Touch (fun _ => False) w E) := by rw [hE.out]; exact (Touch.refl _ _).alloc _
  have hB : E.heap[w.heap.size]? = some (idO c k) := by rw [hE.out]; exact heap_alloc_new _ _
  have hEd : Touch (fun _ => False) E E.drew := (Touch.refl _ _).drew
  have b0 : E.drew.cell? ⟨w.heap.size, 0, none⟩ = some (.int .u64 c) := by rw [cell_of_block (show E.drew.heap[w.heap.size]? = _ from hB)]; rfl
  have b1 : E.drew.cell? ⟨w.heap.size, 1, none⟩ = some (.int .u64 k) := by rw [cell_of_block (show E.drew.heap[w.heap.size]? = _ from hB)]; rfl
  have hm := h.quiet (HTE.out.trans hEd)
  have g1 := hm.c1
  obtain ⟨m, e1, -⟩ := inn_map (kI c k) os
  have L := keys_look2 hm.keys hc hk
  rw [e1, ← h.isS c k] at L
  generalize isS s c k = b at *
  clear hm hB hEd h
  go_enter Tryz.func18, Tryz.ntmps18
  go_upto_region 1 with fail
  rw [← hE.out]
  clear hE
  go_region
  all_goals (go_wp2_with fail)
  all_goals go_ret
  all_goals exact ⟨rfl, HTE.out.trans ⟨rfl, rfl, rfl, Nat.le_refl _, fun _ _ _ => rfl⟩⟩
end
end Go.Proofs.YtodpdcflbnomgaaGreat

/- The contracts of value's empty, asFloat. -/
namespace Go.Proofs.YtodpdcflbnomgaaGreat
open Go.RowKit
set_option linter.unusedVariables false
set_option maxRecDepth 100000

/-- Nothing but a kind. -/
def vEmpty (v : V) : Bool := (v.n == 0) && ((v.f : Int) == 0) && v.s.toList.isEmpty
/-- The number as a float, and whether it is one. -/
def vNum (v : V) : Nat := if isNum v then vFloat v else 0
end Go.Proofs.YtodpdcflbnomgaaGreat

/- The contract of value.Clean. -/
namespace Go.Proofs.YtodpdcflbnomgaaGreat
open Go.RowKit
set_option linter.unusedVariables false
set_option maxRecDepth 100000

/-- A NaN's bits are the one NaN's, whatever the kind. -/
def vClean (v : V) : V := ⟨v.k, v.n, refBits v.f, v.s⟩
set_option maxHeartbeats 400000 in
theorem v_clean (v : V) (w : World) : Calls Tryz.prog 33 #[v.val] w fun e w' => e = .returned (vClean v).val ∧ Touch (fun _ => False) w w' := by
  obtain ⟨k, n, f, s⟩ := v
  have HB : Hid (∀ w, Calls Tryz.prog 54 #[.float .f64 f] w fun e w' => e = .returned (.float .f64 (refBits f)) ∧ w' = w) := v_oneNaN f
  simp only [V.val, vClean] at *
  generalize refBits f = g at *
  have h2 := run_store_f64 Tryz.prog
  go_enter Tryz.func33, Tryz.ntmps33
  go_wp2_with fail
  refine (HB.out _).mono ?_
  rintro e w1 ⟨rfl, rfl⟩
  go_wp2_with fail
  refine bodyPost_ret (v := .agg #[.int .i64 k, .int .i64 n, .float .f64 g, .string s]) (by simp [results, Tryz.results33, go_sem]) rfl ⟨rfl, ?_⟩
  first
    | exact ((Touch.refl _ _).alloc _).alloc _
    | exact (((((((Touch.refl _ _).alloc _).alloc _).setCell _ _ (fun h => by simp only at h; omega)).setCell _ _ (fun h => by simp only at h; omega)).setCell _ _ (fun h => by simp only at h; omega)).setCell _ _ (fun h => by simp only at h; omega)).setCell _ _ (fun h => by simp only at h; omega)
end Go.Proofs.YtodpdcflbnomgaaGreat

/- Package maps: Set, where it refuses. -/
namespace Go.Proofs.YtodpdcflbnomgaaGreat
open Go.RowKit Go.Maps
set_option linter.unusedVariables false
set_option linter.unusedSimpArgs false
set_option maxRecDepth 100000

/-- Whether a set can be laid. -/
def okS (s : MS) (o : O) : Bool := decide (o.kind = 4) && (numOk o.c && numOk o.k) && isS s o.pc o.pk && (aget (kI o.c o.k) s.told).isNone
theorem O.fits.uc {o : O} (h : o.fits) : U64 o.c := ⟨h.c0.1, by have := h.c0.2; omega⟩
theorem O.fits.uk {o : O} (h : o.fits) : U64 o.k := ⟨h.k0.1, by have := h.k0.2; omega⟩
theorem O.fits.upc {o : O} (h : o.fits) : U64 o.pc := ⟨h.pc.1, by have := h.pc.2; omega⟩
theorem O.fits.upk {o : O} (h : o.fits) : U64 o.pk := ⟨h.pk.1, by have := h.pk.2; omega⟩
section
variable {w : World} {g mt mk : Nat} {hv : Value} {os : List (Key × Inn)} {s : MS}
set_option maxHeartbeats 8000000 in
theorem set_no (h : MapsC w g mt mk hv os s) (o : O) (hf : o.fits) (hno : okS s o = false) :
    Calls Tryz.prog 15 #[.pointer (some ⟨g, 0, none⟩), o.val] w fun e w' => e = .returned (.bool false) ∧ Touch (fun _ => False) w w' := by
  obtain ⟨E, hE⟩ : ∃ E, Hid (E = w.alloc (opO o)) := ⟨_, Eq.refl _⟩
  have HTE : Hid (Touch (fun _ => False) w E) := by rw [hE.out]; exact (Touch.refl _ _).alloc _
  have HB : Hid (OpAt w.heap.size o E) := by rw [hE.out]; exact heap_alloc_new _ _
  have q0 := HB.out.q0
  have q1 := HB.out.q1
  have q2 := HB.out.q2
  have q14 := HB.out.q14
  have q15 := HB.out.q15
  have HR : Hid (∀ W, Calls Tryz.prog 32 #[idV o.c o.k] W fun e w' => e = .returned (.bool (numOk o.c && numOk o.k)) ∧ Touch (fun _ => False) W w') := fun W => (right_any o.c o.k W).mono fun e w' q => ⟨q.1, by rw [q.2]; exact (Touch.refl _ _).alloc _⟩
  have HI : Hid (∀ W, Touch (fun _ => False) w W → Calls Tryz.prog 18 #[.pointer (some ⟨g, 0, none⟩), idV o.pc o.pk] W fun e w' => e = .returned (.bool (isS s o.pc o.pk)) ∧ Touch (fun _ => False) W w') := fun W t => isC_any (h.quiet t) hf.upc hf.upk
  have HL : Hid (∀ W, Touch (fun _ => False) w W → W.cell? ⟨g, 0, none⟩ = some (.map (some mt)) ∧ (Instr.lookup 62 (.map (some mt)) (idV o.c o.k) true).run Tryz.prog W = .ok (.tuple #[.agg #[], .bool (aget (kI o.c o.k) s.told).isSome]) W) := fun W t => by
    have hm := h.quiet t
    refine ⟨hm.c0, ?_⟩
    have := told_look hm.told hf.uc hf.uk
    rw [aget_amap] at this
    rw [this]
    cases aget (kI o.c o.k) s.told <;> rfl
  have HK : Hid (∀ W, Touch (fun _ => False) w W → W.cell? ⟨w.heap.size, 0, none⟩ = some (.int .u64 o.c) ∧ W.cell? ⟨w.heap.size, 1, none⟩ = some (.int .u64 o.k) ∧ W.cell? ⟨w.heap.size, 2, none⟩ = some (.int .i64 o.kind) ∧ W.cell? ⟨w.heap.size, 14, none⟩ = some (.int .u64 o.pc) ∧ W.cell? ⟨w.heap.size, 15, none⟩ = some (.int .u64 o.pk) → True) := fun _ _ _ => trivial
  have HKe : Hid (∀ W, Touch (fun _ => False) E W → W.cell? ⟨w.heap.size, 0, none⟩ = some (.int .u64 o.c) ∧ W.cell? ⟨w.heap.size, 1, none⟩ = some (.int .u64 o.k) ∧ W.cell? ⟨w.heap.size, 14, none⟩ = some (.int .u64 o.pc) ∧ W.cell? ⟨w.heap.size, 15, none⟩ = some (.int .u64 o.pk)) := fun W t => by
    have := HB.out.keep t
    exact ⟨this.q0, this.q1, this.q14, this.q15⟩
  have HN : Hid ((decide (o.kind = 4) && (numOk o.c && numOk o.k) && isS s o.pc o.pk && (aget (kI o.c o.k) s.told).isNone) = false) := hno
  have hnone : (aget (kI o.c o.k) s.told).isNone = !(aget (kI o.c o.k) s.told).isSome := by cases aget (kI o.c o.k) s.told <;> rfl
  rw [hnone] at HN
  clear HK h hf hno hnone
  generalize (numOk o.c && numOk o.k) = rb at *
  generalize isS s o.pc o.pk = ib at *
  generalize (aget (kI o.c o.k) s.told).isSome = tb at *
  obtain ⟨kd, hkd⟩ : ∃ kd, kd = o.kind := ⟨_, rfl⟩
  rw [← hkd] at q2 HN
  clear hkd
  by_cases hk : kd = 4
  · subst hk
    have HN2 : Hid ((rb && ib && !tb) = false) := by have := HN.out; rw [show decide ((4 : Int) = 4) = true from by decide, Bool.true_and] at this; exact this
    clear HN
    cases rb with
    | false =>
      clear HN2 HI HL
      go_enter Tryz.func15, Tryz.ntmps15
      go_upto_region 1 with fail
      rw [← hE.out]
      clear hE
      go_wp2_with fail
      refine (HR.out _).mono ?_
      rintro e W1 ⟨rfl, t1⟩
      have HT1 : Hid (Touch (fun _ => False) w W1) := HTE.out.trans t1
      clear t1 q0 q1 q2 q14 q15
      go_wp2_with fail
      go_ret
      exact ⟨rfl, HT1.out⟩
    | true =>
      cases ib with
      | false =>
        clear HN2 HL
        go_enter Tryz.func15, Tryz.ntmps15
        go_upto_region 1 with fail
        rw [← hE.out]
        clear hE
        go_wp2_with fail
        refine (HR.out _).mono ?_
        rintro e W1 ⟨rfl, t1⟩
        have HT1 : Hid (Touch (fun _ => False) w W1) := HTE.out.trans t1
        obtain ⟨k0, k1, k14, k15⟩ := HKe.out _ t1
        clear t1 q0 q1 q2 q14 q15 k0 k1
        go_wp2_with fail
        refine (HI.out _ HT1.out).mono ?_
        rintro e W2 ⟨rfl, t2⟩
        have HT2 : Hid (Touch (fun _ => False) w W2) := HT1.out.trans t2
        clear t2 k14 k15
        go_wp2_with fail
        go_ret
        exact ⟨rfl, HT2.out⟩
      | true =>
        cases tb with
        | false => exact absurd HN2.out (by decide)
        | true =>
          clear HN2
          go_enter Tryz.func15, Tryz.ntmps15
          go_upto_region 1 with fail
          rw [← hE.out]
          clear hE
          go_wp2_with fail
          refine (HR.out _).mono ?_
          rintro e W1 ⟨rfl, t1⟩
          have HT1 : Hid (Touch (fun _ => False) w W1 ∧ Touch (fun _ => False) E W1) := ⟨HTE.out.trans t1, t1⟩
          obtain ⟨k0, k1, k14, k15⟩ := HKe.out _ t1
          clear t1 q0 q1 q2 q14 q15 k0 k1
          go_wp2_with fail
          refine (HI.out _ HT1.out.1).mono ?_
          rintro e W2 ⟨rfl, t2⟩
          have HT2 : Hid (Touch (fun _ => False) w W2 ∧ Touch (fun _ => False) E W2) := ⟨HT1.out.1.trans t2, HT1.out.2.trans t2⟩
          clear t2 k14 k15 HT1
          have td : Touch (fun _ => False) W2 (W2.alloc (.cells #[] 74)).drew := ((Touch.refl _ _).alloc _).drew
          obtain ⟨k0, k1, k14, k15⟩ := HKe.out _ (HT2.out.2.trans td)
          obtain ⟨g0, L⟩ := HL.out _ (HT2.out.1.trans td)
          have td2 : Touch (fun _ => False) W2 W2.drew := (Touch.refl _ _).drew
          obtain ⟨k0', k1', k14', k15'⟩ := HKe.out _ (HT2.out.2.trans td2)
          obtain ⟨g0', L'⟩ := HL.out _ (HT2.out.1.trans td2)
          clear k14 k15 td k14' k15' td2
          go_upto_region 3 with fail
          go_region
          all_goals (go_wp2_with fail)
          all_goals go_ret
          all_goals first
            | exact ⟨rfl, HT2.out.1.trans ((Touch.refl _ _).alloc _).drew⟩
            | exact ⟨rfl, HT2.out.1.trans ((Touch.refl _ _).drew.alloc _)⟩
  · clear HN HI HL HR q0 q1 q14 q15
    have hkb : (kd == 4) = false := by simpa using hk
    go_enter Tryz.func15, Tryz.ntmps15
    go_upto_region 1 with fail
    rw [← hE.out]
    clear hE
    go_wp2_with fail
    go_ret
    exact ⟨rfl, HTE.out⟩
end
end Go.Proofs.YtodpdcflbnomgaaGreat

/- Package maps: what Set's writes leave of a Maps in memory. -/
namespace Go.Proofs.YtodpdcflbnomgaaGreat
open Go.RowKit Go.Maps
set_option linter.unusedVariables false
set_option linter.unusedSimpArgs false
set_option maxRecDepth 100000

theorem length_ains {α : Type} (k : Key) (x : α) : ∀ l : List (Key × α), (ains k x l).length = l.length + 1
  | [] => rfl
  | y :: r => by
    unfold ains; split
    · rfl
    · simp only [List.length_cons, length_ains k x r]
theorem length_aput_le {α : Type} (k : Key) (x : α) (l : List (Key × α)) : (aput k x l).length ≤ l.length + 1 := by
  rw [aput, length_ains]
  have := List.length_filter_le (fun p : Key × α => !(p.1 == k)) l
  unfold adel
  omega
theorem ownsM_tightV {w : World} {ty : TypeId} {b n : Nat} {α : Type} {f : α → Value} {es : List (Key × α)} (h : w.ownsMap Tryz.prog ty heldO b n (toV (amap f es))) : w.ownsMap Tryz.prog ty heldO b es.length (toV (amap f es)) := by
  have := ownsM_tight h
  rwa [length_amap] at this
theorem ains_min {α : Type} {k : Key} {x : α} : ∀ {l : List (Key × α)}, (∀ p ∈ l, bytesBefore k p.1 = true) → ains k x l = (k, x) :: l
  | [], _ => rfl
  | y :: r, h => by unfold ains; rw [if_pos (h y (by simp))]
/-- What is there already. -/
theorem aput_same {α : Type} {k : Key} {x : α} : ∀ {l : List (Key × α)}, Rising l → aget k l = some x → aput k x l = l
  | [], _, h => by simp [aget] at h
  | y :: r, hr, h => by
    have h' := List.pairwise_cons.1 hr
    by_cases e : y.1 = k
    · have hx : y.2 = x := by simp [aget, e] at h; exact h
      have hn : aget k r = none := aget_none.2 fun p hp => fun e2 => before_ne (h'.1 p hp) (e.trans e2.symm)
      have hd : adel k (y :: r) = r := by
        have : adel k (y :: r) = adel k r := by simp [adel, e]
        rw [this, adel_id hn]
      rw [aput, hd, ains_min (fun p hp => by rw [← e]; exact h'.1 p hp), ← hx, ← e]
    · have h2 : aget k r = some x := by simpa [aget, e] using h
      have ih := aput_same h'.2 h2
      have hd : adel k (y :: r) = y :: adel k r := by simp [adel, e]
      have hb : ¬ bytesBefore k y.1 = true := by
        intro hb
        have := before_trans _ _ _ hb (h'.1 _ (aget_mem h2))
        rw [before_irrefl] at this; cases this
      rw [aput, hd]
      unfold ains
      rw [if_neg hb]
      rw [aput] at ih
      rw [ih]
section
variable {w : World} {g mt mk : Nat} {hv : Value} {os : List (Key × Inn)} {s : MS}
theorem notMapCells {w : World} {b n : Nat} {ty t : TypeId} {D : DataW Value} (h : w.ownsMap Tryz.prog ty heldO b n D) {c : Array Value} (hc : w.heap[b]? = some (.cells c t (0, 0))) : False := by
  obtain ⟨_, _, hb, _⟩ := h
  rw [hb] at hc
  cases hc
theorem MapsC.ne_tg (h : MapsC w g mt mk hv os s) : mt ≠ g := by rintro rfl; exact notMapCells h.told h.cells
theorem MapsC.ne_kg (h : MapsC w g mt mk hv os s) : mk ≠ g := by rintro rfl; exact notMapCells h.keys h.cells
theorem MapsC.ne_bg (h : MapsC w g mt mk hv os s) {p : Key × Inn} (hp : p ∈ os) : p.2.b ≠ g := fun e => notMapCells (h.inn p hp).owns (by rw [e]; exact h.cells)
theorem MapsC.ne_bt (h : MapsC w g mt mk hv os s) {p : Key × Inn} (hp : p ∈ os) : p.2.b ≠ mt := by
  obtain ⟨ob, h1, h2, h3⟩ := h.own
  intro e
  have := h3 p hp
  rw [e, h1] at this; cases this
theorem MapsC.ne_bk (h : MapsC w g mt mk hv os s) {p : Key × Inn} (hp : p ∈ os) : p.2.b ≠ mk := by
  obtain ⟨ob, h1, h2, h3⟩ := h.own
  intro e
  have := h3 p hp
  rw [e, h2] at this; cases this
theorem MapsC.ne_bb (h : MapsC w g mt mk hv os s) {p q : Key × Inn} (hp : p ∈ os) (hq : q ∈ os) (hne : p.1 ≠ q.1) : p.2.b ≠ q.2.b := by
  obtain ⟨ob, h1, h2, h3⟩ := h.own
  intro e
  have a := h3 p hp
  rw [e, h3 q hq] at a
  exact hne (Option.some.inj a).symm
/-- A row's block is none of the others'. -/
theorem MapsC.row_ne (h : MapsC w g mt mk hv os s) {v : Value} {xs : List Value} {n : Nat} (hr : w.ownsRow 0 41 22 v n xs) {k : Nat} (hk : v.ownBlock = some k) : k ≠ g ∧ k ≠ mt ∧ k ≠ mk ∧ hv.ownBlock ≠ some k ∧ ∀ p ∈ os, k ≠ p.2.b := by
  obtain ⟨c, hc⟩ := row_ltM hr hk
  refine ⟨?_, ?_, ?_, ?_, ?_⟩
  · rintro rfl
    rw [h.cells] at hc
    simp at hc
  · rintro rfl; exact notMapCells h.told hc
  · rintro rfl; exact notMapCells h.keys hc
  · intro e
    obtain ⟨c2, hc2⟩ := row_ltM h.hidR e
    rw [hc] at hc2
    simp at hc2
  · rintro p hp rfl; exact notMapCells (h.inn p hp).owns hc
theorem MapsC.hid_ne (h : MapsC w g mt mk hv os s) {k : Nat} (hk : hv.ownBlock = some k) : k ≠ g ∧ k ≠ mt ∧ k ≠ mk ∧ ∀ p ∈ os, k ≠ p.2.b := by
  obtain ⟨c, hc⟩ := row_ltM h.hidR hk
  refine ⟨?_, ?_, ?_, ?_⟩
  · rintro rfl
    rw [h.cells] at hc
    simp at hc
  · rintro rfl; exact notMapCells h.told hc
  · rintro rfl; exact notMapCells h.keys hc
  · rintro p hp rfl; exact notMapCells (h.inn p hp).owns hc
theorem MapsC.rows_ne (h : MapsC w g mt mk hv os s) {p : Key × Inn} (hp : p ∈ os) {q : Key × Rk} (hq : q ∈ p.2.es) {k : Nat} (hk : q.2.v.ownBlock = some k) : k ≠ g ∧ k ≠ mt ∧ k ≠ mk ∧ hv.ownBlock ≠ some k ∧ ∀ p ∈ os, k ≠ p.2.b := h.row_ne ((h.inn p hp).rows q hq) hk

/-- An id more is told. -/
theorem MapsC.toldPut (h : MapsC w g mt mk hv os s) {w' : World} {n : Nat} {k : Key} (ho : ToldAt w' mt n (aput k (.agg #[]) (amap (fun _ => .agg #[]) s.told))) (ht : w.mapTurned w' mt) :
    MapsC w' g mt mk hv os { s with told := aput k () s.told } := by
  have t := turned_touch ht
  have ho2 : w'.ownsMap Tryz.prog 34 heldO mt n (toV (amap (fun _ : Unit => Value.agg #[]) (aput k () s.told))) := by rw [amap_aput]; exact ho
  refine ⟨?_, ownsM_tightV ho2, owns_touchM h.keys t (fun e => h.tk e.symm), h.rtold.aput, h.rkeys, row_touchM h.hidR t (fun k hk e => (h.hid_ne hk).2.1 e), h.hidF, h.hidL, fun p hp => ?_, h.eq, h.tk, h.own, h.rown⟩
  · rw [t.block g (lt_of_heap h.cells) (fun e => h.ne_tg e.symm)]; exact h.cells
  · exact (h.inn p hp).touch t (h.ne_bt hp) fun q hq k hk e => (h.rows_ne hp hq hk).2.1 e
/-- A rank laid anew in one of its maps. -/
theorem MapsC.rankPut (h : MapsC w g mt mk hv os s) {kp ky : Key} {i : Inn} (hi : aget kp os = some i) {r : Rk} (hr : r = (aget ky i.es).getD ⟨.slice none 0 0, []⟩) {w1 w2 : World} {v' : Value} {l' : List O}
    (h1 : RowOn w1 v' l') (hl' : l'.length ≤ 1000000) (t1 : Touch (fun k => r.v.ownBlock = some k) w w1) (hv' : v'.ownBlock = r.v.ownBlock ∨ ∃ k, v'.ownBlock = some k ∧ w.heap.size ≤ k) {n : Nat}
    (ho : RanksAt w2 i.b n (aput ky v' (amap Rk.v i.es))) (ht : w1.mapTurned w2 i.b) :
    MapsC w2 g mt mk hv (aput kp ⟨i.b, aput ky ⟨v', l'⟩ i.es⟩ os) { s with keys := aput kp (aput ky l' (innL i)) s.keys } ∧ Touch (fun k => k = i.b ∨ r.v.ownBlock = some k) w w2 := by
  have hip := aget_mem hi
  have t2 := turned_touch ht
  have t : Touch (fun k => k = i.b ∨ r.v.ownBlock = some k) w w2 := (t1.mono fun _ _ e => .inr e).trans (t2.mono fun _ _ e => .inl e)
  -- the old row's block
  have hrb : ∀ k, r.v.ownBlock = some k → k ≠ g ∧ k ≠ mt ∧ k ≠ mk ∧ hv.ownBlock ≠ some k ∧ (∀ p ∈ os, k ≠ p.2.b) ∧ ∃ q ∈ i.es, q.1 = ky ∧ q.2.v.ownBlock = some k := by
    intro k hk
    cases e : aget ky i.es with
    | none => rw [hr, e] at hk; simp [Value.ownBlock] at hk
    | some r0 =>
      have er : r = r0 := by rw [hr, e]; rfl
      rw [er] at hk
      have hm := aget_mem e
      have := h.rows_ne hip hm hk
      exact ⟨this.1, this.2.1, this.2.2.1, this.2.2.2.1, this.2.2.2.2, _, hm, rfl, hk⟩
  obtain ⟨rb, hrb2⟩ := h.rown
  -- rows of other keys lie elsewhere
  have hoth : ∀ p ∈ os, ∀ q ∈ p.2.es, (p.1 ≠ kp ∨ q.1 ≠ ky) → ∀ k, q.2.v.ownBlock = some k → ¬ (k = i.b ∨ r.v.ownBlock = some k) := by
    rintro p hp q hq hne k hk (e | e)
    · exact (h.rows_ne hp hq hk).2.2.2.2 _ hip e
    · obtain ⟨_, _, _, _, _, q2, hq2, e2, hk2⟩ := hrb k e
      have a := hrb2 p hp q hq k hk
      have b := hrb2 _ hip q2 hq2 k hk2
      rw [a] at b
      simp only [Option.some.injEq, Prod.mk.injEq] at b
      rcases hne with x | x
      · exact x b.1
      · exact x (b.2.trans e2)
  have hsz := t1.size
  refine ⟨⟨?_, ?_, ?_, h.rtold, h.rkeys.aput, ?_, h.hidF, h.hidL, ?_, ?_, h.tk, ?_, ?_⟩, t⟩
  · rw [t.block g (lt_of_heap h.cells) (by rintro (e | e); · exact h.ne_bg hip e.symm
                                           · exact (hrb _ e).1 rfl)]; exact h.cells
  · exact owns_touchM h.told t (by rintro (e | e); · exact h.ne_bt hip e.symm
                                   · exact (hrb _ e).2.1 rfl)
  · have e0 : amap innV (aput kp ⟨i.b, aput ky ⟨v', l'⟩ i.es⟩ os) = amap innV os := by
      rw [amap_aput]
      have hg2 : aget kp (amap innV os) = some (.map (some i.b)) := by rw [aget_amap, hi]; rfl
      exact aput_same (h.rkeys.amap innV) hg2
    have e1 : (aput kp (⟨i.b, aput ky ⟨v', l'⟩ i.es⟩ : Inn) os).length = os.length := by
      have := congrArg List.length e0
      rwa [length_amap, length_amap] at this
    rw [e0, e1]
    exact owns_touchM h.keys t (by rintro (e | e); · exact h.ne_bk hip e.symm
                                   · exact (hrb _ e).2.2.1 rfl)
  · exact row_touchM h.hidR t (by rintro k hk (e | e); · exact (h.hid_ne hk).2.2.2 _ hip e
                                  · exact (hrb k e).2.2.2.1 hk)
  · intro p hp
    rcases mem_aput.1 hp with rfl | ⟨hp, hne⟩
    · have hI := h.inn _ hip
      refine ⟨?_, hI.rising.aput, ?_, ?_⟩
      · have ho2 : w2.ownsMap Tryz.prog 9 heldO i.b n (toV (amap Rk.v (aput ky ⟨v', l'⟩ i.es))) := by rw [amap_aput]; exact ho
        exact ownsM_tightV ho2
      · intro q hq
        rcases mem_aput.1 hq with rfl | ⟨hq, hqn⟩
        · refine row_touchM h1 t2 fun k hk e => ?_
          subst e
          rcases hv' with e2 | ⟨k2, e2, h2⟩
          · rw [e2] at hk; exact (hrb _ hk).2.2.2.2.1 _ hip rfl
          · have : k2 = i.b := by rw [hk] at e2; exact (Option.some.inj e2).symm
            have hlt : i.b < w.heap.size := hI.owns.lt
            omega
        · exact row_touchM (hI.rows q hq) t (fun k hk => hoth _ hip q hq (.inr hqn) k hk)
      · intro q hq
        rcases mem_aput.1 hq with rfl | ⟨hq, hqn⟩
        · exact hl'
        · exact hI.lens q hq
    · refine (h.inn p hp).touch t ?_ fun q hq k hk => hoth p hp q hq (.inl hne) k hk
      rintro (e | e)
      · exact h.ne_bb hp hip hne e
      · exact (hrb _ e).2.2.2.2.1 p hp rfl
  · show aput kp (aput ky l' (innL i)) s.keys = amap innL _
    rw [amap_aput, ← h.eq]
    show _ = aput kp (amap Rk.l (aput ky ⟨v', l'⟩ i.es)) s.keys
    rw [amap_aput]
  · obtain ⟨ob, o1, o2, o3⟩ := h.own
    refine ⟨ob, o1, o2, fun p hp => ?_⟩
    rcases mem_aput.1 hp with rfl | ⟨hp, hne⟩
    · exact o3 (kp, i) hip
    · exact o3 p hp
  · refine ⟨fun k => if v'.ownBlock = some k then some (kp, ky) else rb k, fun p hp q hq k hk => ?_⟩
    have hold : ∀ p ∈ os, ∀ q ∈ p.2.es, (p.1 ≠ kp ∨ q.1 ≠ ky) → ∀ k, q.2.v.ownBlock = some k → v'.ownBlock ≠ some k := by
      intro p hp q hq hne k hk e
      rcases hv' with e2 | ⟨k2, e2, h2⟩
      · exact hoth p hp q hq hne k hk (.inr (by rw [← e2]; exact e))
      · obtain ⟨c, hc⟩ := row_ltM ((h.inn p hp).rows q hq) hk
        have := lt_of_heap hc
        rw [e] at e2
        have : k = k2 := Option.some.inj e2
        omega
    rcases mem_aput.1 hp with rfl | ⟨hp, hne⟩
    · rcases mem_aput.1 hq with rfl | ⟨hq, hqn⟩
      · exact if_pos hk
      · show (if v'.ownBlock = some k then _ else _) = _
        rw [if_neg (hold _ hip q hq (.inr hqn) k hk)]
        exact hrb2 _ hip q hq k hk
    · show (if v'.ownBlock = some k then _ else _) = _
      rw [if_neg (hold p hp q hq (.inl hne) k hk)]
      exact hrb2 p hp q hq k hk
/-- A map more. -/
theorem MapsC.newMap (h : MapsC w g mt mk hv os s) {w1 w2 : World} {ko : Key} {b n : Nat} (t1 : Touch (fun _ => False) w w1) (hb : w.heap.size ≤ b) (hr : RanksAt w1 b 0 [])
    (ho : ToldAt w2 mk n (aput ko (.map (some b)) (amap innV os))) (ht : w1.mapTurned w2 mk) :
    MapsC w2 g mt mk hv (aput ko ⟨b, []⟩ os) { s with keys := aput ko [] s.keys } ∧ Touch (fun k => k = mk) w w2 := by
  have t2 := turned_touch ht
  have t : Touch (fun k => k = mk) w w2 := (t1.mono fun _ _ q => q.elim).trans t2
  have hbl := hr.lt
  refine ⟨⟨?_, owns_touchM h.told t h.tk, ?_, h.rtold, h.rkeys.aput, row_touchM h.hidR t (fun k hk e => (h.hid_ne hk).2.2.1 e), h.hidF, h.hidL, fun p hp => ?_, ?_, h.tk, ?_, ?_⟩, t⟩
  · rw [t.block g (lt_of_heap h.cells) (fun e => h.ne_kg e.symm)]; exact h.cells
  · have ho2 : w2.ownsMap Tryz.prog 34 heldO mk n (toV (amap innV (aput ko ⟨b, []⟩ os))) := by rw [amap_aput]; exact ho
    exact ownsM_tightV ho2
  · rcases mem_aput.1 hp with rfl | ⟨hp, hne⟩
    · refine ⟨owns_touchM hr t2 ?_, List.Pairwise.nil, (fun q hq => by cases hq), (fun q hq => by cases hq)⟩
      intro e
      have := h.keys.lt
      simp only at e
      omega
    · exact (h.inn p hp).touch t (h.ne_bk hp) fun q hq k hk e => (h.rows_ne hp hq hk).2.2.1 e
  · show aput ko [] s.keys = amap innL _
    rw [amap_aput, ← h.eq]; rfl
  · obtain ⟨ob, o1, o2, o3⟩ := h.own
    refine ⟨fun k => if k = b then some ko else ob k, ?_, ?_, fun p hp => ?_⟩
    · have := h.told.lt
      show (if mt = b then _ else _) = _
      rw [if_neg (by omega)]; exact o1
    · have := h.keys.lt
      show (if mk = b then _ else _) = _
      rw [if_neg (by omega)]; exact o2
    · rcases mem_aput.1 hp with rfl | ⟨hp, hne⟩
      · exact if_pos rfl
      · have := (h.inn p hp).owns.lt
        show (if p.2.b = b then _ else _) = _
        rw [if_neg (by omega)]; exact o3 p hp
  · obtain ⟨rb, hrb⟩ := h.rown
    refine ⟨rb, fun p hp q hq k hk => ?_⟩
    rcases mem_aput.1 hp with rfl | ⟨hp, hne⟩
    · cases hq
    · exact hrb p hp q hq k hk
end
end Go.Proofs.YtodpdcflbnomgaaGreat
