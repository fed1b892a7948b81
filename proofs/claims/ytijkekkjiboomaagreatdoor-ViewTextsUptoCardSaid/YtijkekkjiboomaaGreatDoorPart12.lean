/- The library's contracts that value's functions call, laid at this program. -/
import Derived.Shelf.Unicode.ValidAny
import Derived.Test.YtijkekkjiboomaaGreatDoorProg
import Derived.Test.YtijkekkjiboomaaGreatDoorPart1
import Derived.Test.YtijkekkjiboomaaGreatDoorPart6
import Derived.Lib.LaidU8T
import Derived.PinnedBridge
import Derived.Test.YtijkekkjiboomaaGreatDoorPart11
import Derived.RangeFuncBox
import Derived.Deep.CutBlock
import Derived.Deep.LoopGhost
namespace Go.Proofs
open Go.Shelf
def Tryz.lays196_ren : Go.Shelf.Ren := ⟨fun | 196 => 63 | 259 => 86 | n => n, fun | 9 => 9 | 4 => 4 | 3 => 3 | 5 => 5 | 12 => 12 | 119 => 115 | 0 => 0 | 46 => 105 | 139 => 118 | 138 => 117 | 53 => 83 | n => n, fun | 3 => 1 | 4 => 2 | n => n⟩
theorem Tryz.lays196 : Go.Proofs.Lays.n196 Tryz.prog Tryz.lays196_ren := {
  mixed := by kernel_rfl
  f196 := Tryz.func63.trans (congrArg some (by kernel_rfl))
  f259 := Tryz.func86.trans (congrArg some (by kernel_rfl))
  t0 := Tryz.underlying0
  a0 := Tryz.isAgg0
  z0 := Tryz.sizeOf0
  v0 := Tryz.zeroValue0
  t3 := Tryz.underlying3
  a3 := Tryz.isAgg3
  z3 := Tryz.sizeOf3
  v3 := Tryz.zeroValue3
  t4 := Tryz.underlying4
  a4 := Tryz.isAgg4
  z4 := Tryz.sizeOf4
  v4 := Tryz.zeroValue4
  t5 := Tryz.underlying5
  a5 := Tryz.isAgg5
  z5 := Tryz.sizeOf5
  v5 := Tryz.zeroValue5
  t9 := Tryz.underlying9
  a9 := Tryz.isAgg9
  z9 := Tryz.sizeOf9
  v9 := Tryz.zeroValue9
  t12 := Tryz.underlying12
  a12 := Tryz.isAgg12
  z12 := Tryz.sizeOf12
  v12 := Tryz.zeroValue12
  t46 := Tryz.underlying105
  a46 := Tryz.isAgg105
  z46 := Tryz.sizeOf105
  v46 := Tryz.zeroValue105
  t53 := Tryz.underlying83
  a53 := Tryz.isAgg83
  z53 := Tryz.sizeOf83
  v53 := Tryz.zeroValue83
  t119 := Tryz.underlying115
  a119 := Tryz.isAgg115
  z119 := Tryz.sizeOf115
  t138 := Tryz.underlying117
  a138 := Tryz.isAgg117
  z138 := Tryz.sizeOf117
  v138 := Tryz.zeroValue117
  t139 := Tryz.underlying118
  a139 := Tryz.isAgg118
  z139 := Tryz.sizeOf118
  v139 := Tryz.zeroValue118
  g3 := by kernel_rfl
  g4 := by kernel_rfl }
open Go.RowKit in
theorem Tryz.utf8_ValidString (s : ByteArray) (w : World) (hs : s.size ≤ 9223372036854775807) (hT : Lib.Utf8Tabs (Tryz.lays196_ren.g 3) (Tryz.lays196_ren.g 4) w) :
    Calls Tryz.prog 63 #[.string s] w fun e w' => e = .returned (.bool (Lib.validD s.data.toList)) ∧ Below w.heap.size w w' := Any.utf8_ValidString Tryz.lays196 s w hs hT
end Go.Proofs

/- The tables of unicode/utf8, as ValidString reads them. -/
namespace Go.Proofs.YtijkekkjiboomaaGreatDoor
open Go.RowKit
set_option linter.unusedVariables false
set_option maxRecDepth 100000

/-- Both tables lie as their initialisers lay them. -/
def TabsU (w : World) : Prop := Go.Lib.Utf8Tabs (Tryz.lays196_ren.g 3) (Tryz.lays196_ren.g 4) w
theorem TabsU.keep {w w' : World} (h : TabsU w) (hT : Touch (fun _ => False) w w') : TabsU w' := by
  have go : ∀ (b o : Nat) (v : Value), w.cell? ⟨b, o, none⟩ = some v → w'.cell? ⟨b, o, none⟩ = some v := fun b o v hv => (hT.cell (World.block_lt_of_cell? _ _ hv) id o).trans hv
  exact ⟨fun c hc => go _ _ _ (h.1 c hc), fun i hi => ⟨go _ _ _ (h.2 i hi).1, go _ _ _ (h.2 i hi).2⟩⟩
theorem tabsU_of {w : World} (h3 : Go.Lib.VarReads Tryz.prog w "unicode/utf8.first" Go.Lib.firstData) (h4 : Go.Lib.VarReads Tryz.prog w "unicode/utf8.acceptRanges" Go.Lib.acceptData) : TabsU w :=
  utf8Tabs_of_readsT (U8Types.of196 Tryz.lays196) ⟨by kernel_rfl, by kernel_rfl, by kernel_rfl, by kernel_rfl, by kernel_rfl, by kernel_rfl, by kernel_rfl⟩ h3 h4
/-- ValidString: the document's texts. -/
theorem valid_any (s : ByteArray) (hs : s.size ≤ 9223372036854775807) (w : World) (hT : TabsU w) : Calls Tryz.prog 63 #[.string s] w fun e w' => e = .returned (.bool (runesOf s.data.toList).isSome) ∧ Touch (fun _ => False) w w' := by
  refine (Tryz.utf8_ValidString s w hs hT).mono ?_
  rintro e w' ⟨rfl, hb⟩
  exact ⟨by rw [valid_runes], ⟨hb.os, hb.tape, hb.output, hb.size, fun k hk _ => hb.block k hk⟩⟩
end Go.Proofs.YtijkekkjiboomaaGreatDoor

/- The contracts of utf.Check, Runes, Len, Len16. -/
namespace Go.Proofs.YtijkekkjiboomaaGreatDoor
open Go.RowKit Go.Shelf
set_option linter.unusedVariables false
set_option maxRecDepth 100000
attribute [local go_sem] Oper.semAt_some

set_option maxHeartbeats 400000 in
theorem utf_check (s : ByteArray) (hs : s.size ≤ 9223372036854775807) (w : World) (hT : TabsU w) : Calls Tryz.prog 39 #[.string s] w fun e w' => e = .returned (.bool (runesOf s.data.toList).isSome) ∧ Touch (fun _ => False) w w' := by
  have HV : Hid (Calls Tryz.prog 63 #[.string s] w fun e w' => e = .returned (.bool (runesOf s.data.toList).isSome) ∧ Touch (fun _ => False) w w') := valid_any s hs w hT
  clear hT
  go_enter Tryz.func39, Tryz.ntmps39
  go_wp2_with fail
  refine HV.out.mono ?_
  rintro e w1 ⟨rfl, hT⟩
  go_wp2_with fail
  go_ret
  exact ⟨rfl, hT⟩

set_option maxHeartbeats 400000 in
theorem utf_runes (s : ByteArray) (w : World) : Calls Tryz.prog 87 #[.string s] w fun e w' => e = .returned (.func (.func 103) #[] #[.pointer (some ⟨w.heap.size, 0, none⟩)]) ∧ w' = w.alloc (.cells #[.string s] 9) := by
  go_enter Tryz.func87, Tryz.ntmps87
  go_wp2_with fail
  go_ret
  exact ⟨rfl, rfl⟩

/-- The iterator of a box that holds s. -/
theorem iter_of (n B : Nat) (s : ByteArray) (hs : s.size ≤ 9223372036854775807) (w : World) (hT : TabsU w) (hb : w.cell? ⟨B, 0, none⟩ = some (.string s)) :
    SeqStopsK Fence.wide n Tryz.prog 103 #[.pointer (some ⟨B, 0, none⟩)] enc2 KeepsWalks (fun xs => xs = enumR 0 (rsOf s.data.toList)) (fun pre => pre <+: enumR 0 (rsOf s.data.toList)) (rsOf s.data.toList).length w :=
  runes_stops n B s hs w hb fun w' hB => utf_check s hs w' (hT.keep (Touch.ofBelow hB))

set_option maxHeartbeats 2000000 in
theorem utf_len (s : ByteArray) (hs : s.size ≤ 4611686018427387904) (w : World) (hT : TabsU w) : Calls Tryz.prog 65 #[.string s] w fun e w' => e = .returned (.int .i64 ((rsOf s.data.toList).length : Int)) ∧ Touch (fun _ => False) w w' := by
  have hln : (rsOf s.data.toList).length ≤ s.size := by have := rsOf_len s.data.toList; simpa using this
  refine (callsIn_wide (n := 3)).1 ?_
  refine callsIn_of_wp_marks Tryz.func65 rfl trivial ?_ rfl
  simp only [Tryz.ntmps65, List.size_toArray, List.length_cons, List.length_nil, Nat.reduceAdd, Nat.reduceSub, Array.replicate_succ, Array.replicate_zero, List.push_toArray, List.append_toArray, List.nil_append, List.cons_append]
  gi_wp2_with fail
  refine ⟨trivial, (callsIn_wide.2 (utf_runes s _)).mono ?_⟩
  rintro e w1 ⟨rfl, rfl⟩
  gi_wp2
  have hs0 := (Boxed.new w 3 (.int .i64 0)).alloc (.cells #[.string s] 9)
  have hb := Boxed.new (w.alloc (.cells #[.int .i64 0] 3)) 9 (.string s)
  rw [World.size_alloc] at hb
  have hB0 : Below w.heap.size w ((w.alloc (.cells #[.int .i64 0] 3)).alloc (.cells #[.string s] 9)) := ((Below.refl _ w).alloc (Nat.le_refl _) _).alloc (by simp) _
  refine wpIn_rangeFunc_ownF rfl (by decide) (gf := 103) (lb := #[.pointer (some ⟨w.heap.size + 1, 0, none⟩)]) rfl trivial (enters_of Tryz.func103 (by kernel_rfl) rfl)
    (iter_of _ (w.heap.size + 1) s (by omega) _ (hT.keep (Touch.ofBelow hB0)) hb.cell) walksK_t walksK_b (Below.refl _ _) (fun _ => rfl)
    (fun pre W => Boxed W w.heap.size 3 (.int .i64 (pre.length : Int)) ∧ Below w.heap.size w W)
    (fun _ _ _ => False)
    (OwnFrom.and (Own.from (boxed_own _ _ _) _) (ownFrom_below (Nat.le_refl _) (by simp; omega)))
    (fun _ _ _ _ _ hs _ _ => hs)
    ⟨hs0, hB0⟩
    (fun x => { tmps := #[.string s, undef, .int .i64 0, .pointer (some ⟨w.heap.size, 0, none⟩), .string s, .func (.func 103) #[] #[.pointer (some ⟨w.heap.size + 1, 0, none⟩)], .int .i64 (x.1 : Int), .int .i32 (x.2 : Int), undef, undef, undef], defers := [] }) ?assign ?body ?done ?stop
  case assign =>
    intro l x W K hK
    gi_wp2
    simpa [enc2] using hK
  case body =>
    rintro l pre x W ⟨hX, hB⟩ hlt
    have hlt2 : pre.length < s.size := by omega
    have hc := hX.cell
    have hf := hX.frozen
    have HX : Hid (Boxed W w.heap.size 3 (.int .i64 (pre.length : Int))) := hX
    have HP : Hid ((pre ++ [x]).length = pre.length + 1) := by rw [Hid]; simp
    clear hX
    gi_wp2
    exact ⟨KeepsOthers.setCell _ _ _, walks_of (KeepsOthers.setCell _ _ _), by rw [HP.out]; exact HX.out.set _, hB.setCell (p := ⟨w.heap.size, 0, none⟩) (Nat.le_refl _) _⟩
  case done =>
    rintro D ys W hD rfl ⟨hX, hB⟩ hK
    rw [enumR_len] at hX
    have hc := hX.cell
    gi_wp2
    refine ⟨by simp, .inl ⟨_, _, rfl, run_takeDeferred hK, ?_⟩⟩
    exact ⟨_, results_tmp rfl _ _ _, rfl, Touch.ofBelow (hB.trans (belowK_b (w := w) (Nat.le_refl _) W D _ _ (by simp at hD; omega) hK rfl rfl))⟩
  case stop =>
    rintro D c pre W _ _ h _
    exact h.elim
end Go.Proofs.YtijkekkjiboomaaGreatDoor

/- Views: how many units a run has, and a list of them. -/
namespace Go.Proofs.YtijkekkjiboomaaGreatDoor
open Go.RowKit
set_option linter.unusedVariables false
set_option linter.unusedSimpArgs false
set_option maxRecDepth 100000

theorem heap_alloc2 (w : World) (a b : Obj) : ((w.alloc a).alloc b).heap[w.heap.size]? = some a ∧ ((w.alloc a).alloc b).heap[w.heap.size + 1]? = some b := by
  refine ⟨hkY ((Touch.refl _ _).alloc _) (heap_alloc_new _ _), ?_⟩
  have := heap_alloc_new (w.alloc a) b
  rwa [show (w.alloc a).heap.size = w.heap.size + 1 from Array.size_push _] at this
def Rw.len (r : Rw) : Nat := if r.em = true then 1 else (rsOf r.tx.data.toList).length
theorem MtR.len {w : World} {r : Rw} {x : Rn} (h : MtR w r x) : r.len = x.len := by unfold Rw.len Rn.len; rw [h.em, h.tx]
set_option maxHeartbeats 4000000 in
theorem vlen_any (r : Rw) (hs : r.tx.size ≤ 1048576) (w : World) (hT : TabsU w) : Calls Tryz.prog 43 #[r.val] w fun e w' => e = .returned (.int .i64 (r.len : Int)) ∧ Touch (fun _ => False) w w' := by
  have HL : Hid (∀ W, Touch (fun _ => False) w W → Calls Tryz.prog 65 #[.string r.tx] W fun e w' => e = .returned (.int .i64 ((rsOf r.tx.data.toList).length : Int)) ∧ Touch (fun _ => False) W w') := fun W t => utf_len r.tx (by omega) W (hT.keep t)
  obtain ⟨E, hE⟩ : ∃ E, Hid (E = w.alloc (rwO r)) := ⟨_, Eq.refl _⟩
  have HTE : Hid (Touch (fun _ => False) w E) := by rw [hE.out]; exact (Touch.refl _ _).alloc _
  obtain ⟨c0, c1, -, -, -, -, -⟩ := rwO_cells (show E.heap[w.heap.size]? = some (rwO r) by rw [hE.out]; exact heap_alloc_new _ _)
  unfold Rw.len
  clear hT hs
  generalize (rsOf r.tx.data.toList).length = n at *
  obtain ⟨tx, em, vk, vn, vf, vs, ms⟩ := r
  simp only at c0 c1 HL ⊢
  go_enter Tryz.func43, Tryz.ntmps43
  go_upto_region 1 with fail
  rw [← hE.out]
  clear hE
  cases em with
  | true =>
    go_wp2_with fail
    go_ret
    exact ⟨rfl, HTE.out⟩
  | false =>
    go_wp2_with fail
    refine (HL.out _ HTE.out).mono ?_
    rintro e W1 ⟨rfl, t1⟩
    have HT1 : Hid (Touch (fun _ => False) w W1) := HTE.out.trans t1
    clear t1 c0 c1 HL
    go_wp2_with fail
    go_ret
    exact ⟨rfl, HT1.out⟩
/-- A run's bytes are few. -/
def Small (L : List Rn) : Prop := ∀ x ∈ L, x.tx.size ≤ 1048576
theorem rn_len_le (x : Rn) (h : x.tx.size ≤ 1048576) : x.len ≤ 1048576 := by
  unfold Rn.len
  split
  · omega
  · have := rsOf_len x.tx.data.toList
    have e : x.tx.data.toList.length = x.tx.size := by simp
    show (rsOf x.tx.data.toList).length ≤ _
    omega
theorem lenL_le {L : List Rn} (h : Small L) : lenL L ≤ 1048576 * L.length := by
  induction L with
  | nil => simp [lenL]
  | cons x L ih =>
    have h1 := ih fun y hy => h y (List.mem_cons_of_mem _ hy)
    have h2 := rn_len_le x (h x (by simp))
    rw [lenL_cons, List.length_cons]
    omega
theorem lenL_take_succ {L : List Rn} {i : Nat} (h : i < L.length) : lenL (L.take (i + 1)) = lenL (L.take i) + L[i].len := by
  rw [List.take_succ_eq_append_getElem h, lenL_append]
  simp [lenL]
set_option maxHeartbeats 8000000 in
theorem vlens_any {w : World} {v : Value} {L : List Rn} (hv : SlRn w v L) (hs : Small L) (hl : L.length ≤ 1048576) (hT : TabsU w) :
    Calls Tryz.prog 41 #[v] w fun e w' => e = .returned (.int .i64 (lenL L : Int)) ∧ Touch (fun _ => False) w w' := by
  obtain ⟨raw, hr, hm⟩ := hv
  have hrl := hm.len
  obtain ⟨ao, cap, rfl, a1, a2, a3⟩ := hr.shape
  have HA : Hid (raw ≠ [] → _) := hr.at
  have HC : Hid (∀ j (h1 : j < raw.length) (h2 : j < L.length) W, Touch (fun _ => False) w W → Calls Tryz.prog 43 #[raw[j].val] W fun e w' => e = .returned (.int .i64 (L[j].len : Int)) ∧ Touch (fun _ => False) W w') := fun j h1 h2 W t => by
    have m := hm.get j h1 h2
    rw [← m.len]
    exact vlen_any raw[j] (by rw [m.tx]; exact hs _ (List.getElem_mem h2)) W (hT.keep t)
  have HB : Hid (∀ j, lenL (L.take j) ≤ 1048576 * 1048576 ∧ ∀ h : j < L.length, lenL (L.take (j + 1)) = lenL (L.take j) + L[j].len) := fun j => ⟨by
    have := lenL_le (L := L.take j) fun x hx => hs x (List.mem_of_mem_take hx)
    rw [List.length_take] at this
    have : min j L.length ≤ 1048576 := by omega
    omega, fun h => lenL_take_succ h⟩
  have HBd : Hid (∀ j (h : j < L.length), L[j].len ≤ 1048576) := fun j h => rn_len_le _ (hs _ (List.getElem_mem h))
  have HZ : Hid (lenL (L.take L.length) = lenL L) := by rw [Hid, List.take_length]
  have HRL : Hid (raw.length = L.length) := hrl
  clear hr hm hs hT hrl a1 a2 a3
  rw [HRL.out]
  go_enter Tryz.func41, Tryz.ntmps41
  go_wp2_with fail
  go_loopg [3, 8] L.length (fun gk s3 s8 wr => ∃ i : Nat, i + gk = L.length ∧ s3 = .int .i64 (lenL (L.take i) : Int) ∧ s8 = .int .i64 (i : Int) ∧ Hid (Touch (fun _ => False) w wr))
  case atStart => exact ⟨0, by omega, rfl, rfl, Touch.refl _ _⟩
  case round =>
    obtain ⟨i, hig, rfl, rfl, HT⟩ := hrel
    by_cases hil : i < L.length
    · have hil2 : i < raw.length := by rw [HRL.out]; exact hil
      obtain ⟨b, o, rfl, -, hca⟩ := HA.out (by intro e; subst e; simp at hil2)
      obtain ⟨x0, x1, x2, x3, x4, x5, x6⟩ := hca wr HT.out i hil2
      have HCi := HC.out i hil2 hil
      have HBi := (HB.out i).2 hil
      have HBs := (HB.out i).1
      have HBe := HBd.out i hil
      have HT2 : Hid (Touch (fun _ => False) w (wr.alloc (rwO raw[i]))) := HT.out.alloc _
      have HTF : Hid (∀ W, Touch (fun _ => False) (wr.alloc (rwO raw[i])) W → Touch (fun _ => False) w W) := fun W t => HT2.out.trans t
      have HL' : Hid (lenL (L.take (i + 1)) = lenL (L.take i) + L[i].len) := HBi
      have hi1 : (0 : Int) ≤ (i : Int) := by omega
      have hi2 : (i : Int) < (L.length : Int) := by omega
      have hbx := heap_alloc_new wr (rwO raw[i])
      obtain ⟨p0, p1, p2, p3, p4, p5, p6⟩ := rwO_cells hbx
      clear hbx hca HA HC HBi HB HBd
      have HCj : Hid (∀ W, Touch (fun _ => False) w W → Calls Tryz.prog 43 #[raw[i].val] W fun e w' => e = .returned (.int .i64 (L[i].len : Int)) ∧ Touch (fun _ => False) W w') := HCi
      clear HCi
      generalize raw[i] = x at *
      generalize L[i].len = n at *
      generalize lenL (L.take i) = s at *
      obtain ⟨tx, em, vk, vn, vf, vs, ⟨ma, mn, mc⟩⟩ := x
      simp only at x0 x1 x2 x3 x4 x5 x6 p0 p1 p2 p3 p4 p5 p6 HCj
      have hst := run_store_f64 Tryz.prog
      clear hil2 HRL
      go_wp2_with fail
      clear hst
      refine (HCj.out _ HT2.out).mono ?_
      rintro e W2 ⟨rfl, t2⟩
      have HT3 : Hid (Touch (fun _ => False) w W2) := HTF.out W2 t2
      clear t2 HTF x0 x1 x2 x3 x4 x5 x6 p0 p1 p2 p3 p4 p5 p6 HCj HT2
      go_wp2_with fail
      go_roundg (L.length - (i + 1))
      case measure => omega
      case rel => exact ⟨i + 1, by omega, by rw [HL'.out, Int.natCast_add], by go_num, HT3.out⟩
    · have : i = L.length := by omega
      subst this
      rw [HZ.out]
      go_wp2_with fail
      go_ret
      exact ⟨rfl, HT.out⟩
end Go.Proofs.YtijkekkjiboomaaGreatDoor
