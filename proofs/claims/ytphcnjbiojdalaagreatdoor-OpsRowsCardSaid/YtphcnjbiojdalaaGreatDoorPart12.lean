/- Same. -/
import Derived.Test.YtphcnjbiojdalaaGreatDoorPart11
import Derived.Test.YtphcnjbiojdalaaGreatDoorPart5
import Derived.Deep.RegionHeld3
import Derived.Deep.MidRow
import Derived.Great.Ranges
import Derived.Test.YtphcnjbiojdalaaGreatDoorPart10
import Derived.Test.YtphcnjbiojdalaaGreatDoorRef2c
import Derived.Test.YtphcnjbiojdalaaGreatDoorPart2
import Derived.Test.YtphcnjbiojdalaaGreatDoorPart1
import Derived.Test.YtphcnjbiojdalaaGreatDoorPart9
namespace Go.Proofs.YtphcnjbiojdalaaGreatDoor
open Go.RowKit
set_option linter.unusedVariables false
set_option linter.unusedSimpArgs false
set_option maxRecDepth 100000

/-- Without its value. -/
def O.noV (o : O) : O := { o with vk := 0, vn := 0, vf := 0, vs := ⟨#[]⟩ }
/-- All fields but the values are alike. -/
def likeO (a b : O) : Bool := ((a.c == b.c) && ((a.k == b.k) && ((a.kind == b.kind) && ((a.st == b.st) && ((a.lc == b.lc) && ((a.lk == b.lk) && ((a.rc == b.rc) && ((a.rk == b.rk) && ((a.tx.toList == b.tx.toList) && ((a.ky.toList == b.ky.toList) && ((a.pc == b.pc) && ((a.pk == b.pk) && ((a.fc == b.fc) && ((a.fk == b.fk) && ((a.fa == b.fa) && ((a.tc == b.tc) && ((a.tk == b.tk) && (a.ta == b.ta))))))))))))))))))
set_option maxHeartbeats 8000000 in
theorem eql_op (a b : O) (w : World) : (binOp .eql 31 a.noV.val b.noV.val).run Tryz.prog w = .ok (.bool (likeO a b)) w := by
  have hu : Tryz.prog.underlying 25 = some (.float .f64) := by kernel_rfl
  have hF0 : ∀ (d : Nat) w, (Op.equalIn (d + 1) 25 (Value.float .f64 0) (Value.float .f64 0)).run Tryz.prog w = .ok true w := by
    intro d w
    simp [Op.equalIn, run_underlying hu]
    try kernel_rfl
  have hF : ∀ w, (Op.equalIn 9998 25 (Value.float .f64 0) (Value.float .f64 0)).run Tryz.prog w = .ok true w := fun w => hF0 9997 w
  clear hF0
  unfold likeO
  simp only [O.noV]
  go_simp
  rcases Classical.em (a.c = b.c) with h1 | h1
  rotate_left
  · simp [h1]
  rcases Classical.em (a.k = b.k) with h2 | h2
  rotate_left
  · simp [h2]
  rcases Classical.em (a.kind = b.kind) with h3 | h3
  rotate_left
  · simp [h3]
  rcases Classical.em (a.st = b.st) with h4 | h4
  rotate_left
  · simp [h4]
  rcases Classical.em (a.lc = b.lc) with h5 | h5
  rotate_left
  · simp [h5]
  rcases Classical.em (a.lk = b.lk) with h6 | h6
  rotate_left
  · simp [h6]
  rcases Classical.em (a.rc = b.rc) with h7 | h7
  rotate_left
  · simp [h7]
  rcases Classical.em (a.rk = b.rk) with h8 | h8
  rotate_left
  · simp [h8]
  rcases Classical.em (a.tx.toList = b.tx.toList) with h9 | h9
  rotate_left
  · simp [h9]
  rcases Classical.em (a.ky.toList = b.ky.toList) with h10 | h10
  rotate_left
  · simp [h10]
  rcases Classical.em (a.pc = b.pc) with h11 | h11
  rotate_left
  · simp [h11]
  rcases Classical.em (a.pk = b.pk) with h12 | h12
  rotate_left
  · simp [h12]
  rcases Classical.em (a.fc = b.fc) with h13 | h13
  rotate_left
  · simp [h13]
  rcases Classical.em (a.fk = b.fk) with h14 | h14
  rotate_left
  · simp [h14]
  rcases Classical.em (a.fa = b.fa) with h15 | h15
  rotate_left
  · simp [h15]
  rcases Classical.em (a.tc = b.tc) with h16 | h16
  rotate_left
  · simp [h16]
  rcases Classical.em (a.tk = b.tk) with h17 | h17
  rotate_left
  · simp [h17]
  rcases Classical.em (a.ta = b.ta) with h18 | h18
  rotate_left
  · simp [h18]
  simp [h1, h2, h3, h4, h5, h6, h7, h8, h9, h10, h11, h12, h13, h14, h15, h16, h17, h18]

theorem wp_eql_agg {P : Program} {op : Oper} {a : Act} {w : World} {K : Act → World → Prop} {Q : Exit → Act → World → Prop} (ty rt : TypeId) (x y : Operand) (ho : op.op = .binOp .eql ty x y rt)
    (xs ys : Array Value) (hx : a.eval x = .agg xs) (hy : a.eval y = .agg ys) (hm : P.eqGuardType P.depth ty = false) (r : Bool) (hr : (binOp .eql ty (.agg xs) (.agg ys)).run P w = .ok (.bool r) w)
    (h : K (a.put op.dst (.bool r)) w) : op.wp P a w K Q := by
  unfold Oper.wp execOp
  simp only [ho, hx, hy, Sem.run_bind, Sem.run_pure, Result.andThen_ok, run_eqGuard_agg, hm, hr]
  exact h
/-- The world in which a box's value has been cleared. -/
def clearV (W : World) (B : Nat) : World := W.setCells B 9 [.int .i64 0, .int .i64 0, .float .f64 0, .string ⟨#[]⟩]
theorem OpAt.there {W : World} {B : Nat} {o : O} (h : OpAt B o W) (k n : Nat) (hk : k + n ≤ 22) : W.there B k n := by
  intro j hj
  refine ⟨?_, free_of_block h⟩
  rw [cell_of_block h, Array.getElem?_eq_getElem (by show k + j < 22; omega)]
  rfl
theorem OpAt.clearV {W : World} {B : Nat} {o : O} (h : OpAt B o W) : OpAt B o.noV (clearV W B) := by
  unfold OpAt at h
  have h0 := heap_setCell_same W B 9 (.int .i64 0) h
  have h1 := heap_setCell_same _ B 10 (.int .i64 0) h0
  have h2 := heap_setCell_same _ B 11 (.float .f64 0) h1
  have h3 := heap_setCell_same _ B 12 (.string ⟨#[]⟩) h2
  exact h3
theorem OpAt.clearV_other {W : World} {B C : Nat} {o : O} (h : OpAt B o W) (hc : C ≠ B) : OpAt B o (Go.Proofs.YtphcnjbiojdalaaGreatDoor.clearV W C) := by
  unfold OpAt at *
  show ((((W.setCell ⟨C, 9, none⟩ (.int .i64 0)).setCell ⟨C, 10, none⟩ (.int .i64 0)).setCell ⟨C, 11, none⟩ (.float .f64 0)).setCell ⟨C, 12, none⟩ (.string ⟨#[]⟩)).heap[B]? = _
  rw [heap_setCell_other _ _ _ _ hc, heap_setCell_other _ _ _ _ hc, heap_setCell_other _ _ _ _ hc, heap_setCell_other _ _ _ _ hc]
  exact h
theorem Touch.clearV {w W : World} {B : Nat} (t : Touch (fun _ => False) w W) (hB : w.heap.size ≤ B) : Touch (fun _ => False) w (Go.Proofs.YtphcnjbiojdalaaGreatDoor.clearV W B) := by
  have n : B < w.heap.size → False := fun h => absurd h (by omega)
  have t0 := t.setCell ⟨B, 9, none⟩ (.int .i64 0) n
  have t1 := t0.setCell ⟨B, 10, none⟩ (.int .i64 0) n
  have t2 := t1.setCell ⟨B, 11, none⟩ (.float .f64 0) n
  exact t2.setCell ⟨B, 12, none⟩ (.string ⟨#[]⟩) n
set_option maxHeartbeats 8000000 in
theorem ops_same (a b : O) (hfa : a.vf < 18446744073709551616) (hfb : b.vf < 18446744073709551616) (w : World) : Calls Tryz.prog 27 #[a.val, b.val] w fun e w' => e = .returned (.bool ((refCmp a.v b.v == 0) && likeO a b)) ∧ Touch (fun _ => False) w w' := by
  have HC : Hid (∀ w, Calls Tryz.prog 55 #[a.v.val, b.v.val] w fun e w' => e = .returned (.bool (refCmp a.v b.v == 0)) ∧ Touch (fun _ => False) w w') := fun w => v_same a.v b.v hfa hfb w
  generalize (refCmp a.v b.v == 0) = t at *
  clear hfa hfb
  go_enter Tryz.func27, Tryz.ntmps27
  go_upto_region 1 with fail
  obtain ⟨W0, hW0⟩ : ∃ W0, Hid (W0 = (w.alloc (opO a)).alloc (opO b)) := ⟨_, Eq.refl _⟩
  have HT0 : Hid (Touch (fun _ => False) w W0) := by rw [hW0.out]; exact ((Touch.refl _ _).alloc _).alloc _
  have HA : Hid (OpAt w.heap.size a W0 ∧ OpAt (w.heap.size + 1) b W0) := by rw [hW0.out]; exact heap_two w _ _
  rw [← hW0.out]
  clear hW0
  have q9 := HA.out.1.q9
  have q10 := HA.out.1.q10
  have q11 := HA.out.1.q11
  have q12 := HA.out.1.q12
  have qb9 := HA.out.2.q9
  have qb10 := HA.out.2.q10
  have qb11 := HA.out.2.q11
  have qb12 := HA.out.2.q12
  go_wp2_with fail
  clear q9 q10 q11 q12 qb9 qb10 qb11 qb12
  refine (HC.out _).mono ?_
  rintro e w1 ⟨rfl, t⟩
  have HT1 : Hid (Touch (fun _ => False) w w1) := HT0.out.trans t
  have HA1 : Hid (OpAt w.heap.size a w1 ∧ OpAt (w.heap.size + 1) b w1) := ⟨HA.out.1.keep t, HA.out.2.keep t⟩
  clear t HA HT0
  go_upto_region 2 with fail
  refine wp_region_lit ?_
  refine wpList_plain rfl fun K hK => ?_
  go_simp
  refine hK _ _ ?_
  clear hK K
  refine wpList_plain rfl fun K hK => ?_
  go_simp
  refine hK _ _ ?_
  clear hK K
  refine wpList_plain rfl fun K hK => ?_
  go_simp
  refine hK _ _ ?_
  clear hK K
  refine wpList_store_mid rfl 27 (.tmp 13) (.tmp 11) rfl w.heap.size 9 #[.int .i64 0, .int .i64 0, .float .f64 0, .string ⟨#[]⟩] rfl rfl (HA1.out.1.there 9 4 (by decide)) (by kernel_rfl) (by kernel_rfl) ?_
  simp only [Act.put]
  refine wpList_plain rfl fun K hK => ?_
  go_simp
  refine hK _ _ ?_
  clear hK K
  refine wpList_store_mid rfl 27 (.tmp 14) (.tmp 12) rfl (w.heap.size + 1) 9 #[.int .i64 0, .int .i64 0, .float .f64 0, .string ⟨#[]⟩] rfl rfl (World.there_setCells (HA1.out.2.there 9 4 (by decide)) _ _ _) (by kernel_rfl) (by kernel_rfl) ?_
  simp only [Act.put]
  obtain ⟨W3, hW3⟩ : ∃ W3, Hid (W3 = clearV (clearV w1 w.heap.size) (w.heap.size + 1)) := ⟨_, Eq.refl _⟩
  have HT3 : Hid (Touch (fun _ => False) w W3) := by rw [hW3.out]; exact (HT1.out.clearV (Nat.le_refl _)).clearV (Nat.le_succ _)
  have HA3 : Hid (OpAt w.heap.size a.noV W3 ∧ OpAt (w.heap.size + 1) b.noV W3) := by rw [hW3.out]; exact ⟨HA1.out.1.clearV.clearV_other (by omega), (HA1.out.2.clearV_other (by omega)).clearV⟩
  have HQ := eql_op a b
  unfold clearV at hW3
  rw [← hW3.out]
  clear hW3 HA1 HT1
  cases t
  · clear HA3 HQ
    go_wp2_with fail
    go_ret
    exact ⟨by simp, HT3.out⟩
  · go_upto_region 3 with fail
    refine wp_region_lit ?_
    refine wpList_plain rfl fun K hK => ?_
    go_simp
    refine hK _ _ ?_
    clear hK K
    refine wpList_plain rfl fun K hK => ?_
    go_simp
    refine hK _ _ ?_
    clear hK K
    refine wpList_step fun K hK => ?_
    rw [if_pos (by kernel_rfl)]
    refine wp_load_mid 31 (.tmp 2) rfl w.heap.size 0 rfl a.noV.vals.toList _ (rangeAt_of HA3.out.1) Tryz.underlying31 rfl (by kernel_rfl) (hK _ _ ?_)
    clear hK K
    refine wpList_step fun K hK => ?_
    rw [if_pos (by kernel_rfl)]
    refine wp_load_mid 31 (.tmp 3) rfl (w.heap.size + 1) 0 rfl b.noV.vals.toList _ (rangeAt_of HA3.out.2) Tryz.underlying31 rfl (by kernel_rfl) (hK _ _ ?_)
    clear hK K
    simp only [Act.put, List.setIfInBounds_toArray, List.set_cons_succ, List.set_cons_zero]
    refine wpList_step fun K hK => ?_
    rw [if_pos (by kernel_rfl)]
    refine wp_eql_agg 31 31 (.tmp 17) (.tmp 18) rfl a.noV.vals b.noV.vals rfl rfl (by kernel_rfl) (likeO a b) (HQ _) (hK _ _ ?_)
    clear hK K HQ HA3
    simp only [Act.put, List.setIfInBounds_toArray, List.set_cons_succ, List.set_cons_zero]
    go_wp2_with fail
    go_ret
    exact ⟨by simp, HT3.out⟩
end Go.Proofs.YtphcnjbiojdalaaGreatDoor

/- Small ones: texts, keys, stamps, values that text can carry; the document's. -/
namespace Go.Proofs.YtphcnjbiojdalaaGreatDoor
open Go.RowKit
set_option linter.unusedVariables false
set_option linter.unusedSimpArgs false
set_option maxRecDepth 100000

def textOk (s : ByteArray) : Bool := decide (1 ≤ (rsOf s.data.toList).length) && decide ((rsOf s.data.toList).length ≤ 4096)
def keyOk (s : ByteArray) : Bool := decide (1 ≤ s.size) && (decide (s.size ≤ 64) && (runesOf s.data.toList).isSome)
def stampOk (n : Int) : Bool := decide (1 ≤ n) && decide (n ≤ 9007199254740991)
def plainOk (v : V) : Bool := (refCheck v == 0) && (v.k != 5)

theorem rightText_any (s : ByteArray) (hs : s.size ≤ 4611686018427387904) (w : World) (hT : TabsU w) : Calls Tryz.prog 61 #[.string s] w fun e w' => e = .returned (.bool (textOk s)) ∧ Touch (fun _ => False) w w' := by
  have HL : Hid (Calls Tryz.prog 49 #[.string s] w fun e w' => e = .returned (.int .i64 ((rsOf s.data.toList).length : Int)) ∧ Touch (fun _ => False) w w') := utf_len s hs w hT
  unfold textOk
  generalize (rsOf s.data.toList).length = n at *
  clear hs hT
  by_cases h1 : 1 ≤ n
  · by_cases h2 : n ≤ 4096
    · have g1 : (1 : Int) ≤ (n : Int) := by omega
      have g2 : (n : Int) ≤ 4096 := by omega
      go_enter Tryz.func61, Tryz.ntmps61
      go_wp2_with fail
      refine HL.out.mono ?_
      rintro e w1 ⟨rfl, t⟩
      have HT : Hid (Touch (fun _ => False) w w1) := t
      clear t
      go_wp2_with fail
      go_ret
      exact ⟨by first | (simp [h1, h2]; done) | (simp [h1, h2]; omega), HT.out⟩
    · have g1 : (1 : Int) ≤ (n : Int) := by omega
      have g2 : ¬ (n : Int) ≤ 4096 := by omega
      go_enter Tryz.func61, Tryz.ntmps61
      go_wp2_with fail
      refine HL.out.mono ?_
      rintro e w1 ⟨rfl, t⟩
      have HT : Hid (Touch (fun _ => False) w w1) := t
      clear t
      go_wp2_with fail
      go_ret
      exact ⟨by first | (simp [h1, h2]; done) | (simp [h1, h2]; omega), HT.out⟩
  · have g1 : ¬ (1 : Int) ≤ (n : Int) := by omega
    go_enter Tryz.func61, Tryz.ntmps61
    go_wp2_with fail
    refine HL.out.mono ?_
    rintro e w1 ⟨rfl, t⟩
    have HT : Hid (Touch (fun _ => False) w w1) := t
    clear t
    go_wp2_with fail
    go_ret
    exact ⟨by first | (simp [h1]; done) | (simp; omega), HT.out⟩
theorem rightStamp_any (n : Int) (w : World) : Calls Tryz.prog 65 #[.int .u64 n] w fun e w' => e = .returned (.bool (stampOk n)) ∧ w' = w := by
  unfold stampOk
  by_cases h1 : 1 ≤ n
  · by_cases h2 : n ≤ 9007199254740991
    · go_enter Tryz.func65, Tryz.ntmps65
      go_wp2_with fail
      go_ret
      exact ⟨by first | (simp [h1, h2]; done) | (simp [h1, h2]; omega), rfl⟩
    · go_enter Tryz.func65, Tryz.ntmps65
      go_wp2_with fail
      go_ret
      exact ⟨by first | (simp [h1, h2]; done) | (simp [h1, h2]; omega), rfl⟩
  · go_enter Tryz.func65, Tryz.ntmps65
    go_wp2_with fail
    go_ret
    exact ⟨by first | (simp [h1]; done) | (simp; omega), rfl⟩
theorem rightKey_any (s : ByteArray) (hs : s.size ≤ 4611686018427387904) (w : World) (hT : TabsU w) : Calls Tryz.prog 63 #[.string s] w fun e w' => e = .returned (.bool (keyOk s)) ∧ Touch (fun _ => False) w w' := by
  have HL : Hid (Calls Tryz.prog 88 #[.string s] w fun e w' => e = .returned (.bool (runesOf s.data.toList).isSome) ∧ Touch (fun _ => False) w w') := utf_check s (by omega) w hT
  unfold keyOk
  generalize (runesOf s.data.toList).isSome = r at *
  clear hT
  by_cases h1 : 1 ≤ s.size
  · have g1 : (1 : Int) ≤ (s.size : Int) := by omega
    by_cases h2 : s.size ≤ 64
    · have g2 : (s.size : Int) ≤ 64 := by omega
      clear hs
      go_enter Tryz.func63, Tryz.ntmps63
      go_wp2_with fail
      refine HL.out.mono ?_
      rintro e w1 ⟨rfl, t⟩
      have HT : Hid (Touch (fun _ => False) w w1) := t
      clear t
      go_wp2_with fail
      go_ret
      exact ⟨by first | (simp [h1, h2]; done) | (simp [h1, h2]; omega), HT.out⟩
    · have g2 : ¬ (s.size : Int) ≤ 64 := by omega
      clear hs
      go_enter Tryz.func63, Tryz.ntmps63
      go_wp2_with fail
      go_ret
      exact ⟨by first | (simp [h1, h2]; done) | (simp [h1, h2]; omega), Touch.refl _ _⟩
  · have g1 : ¬ (1 : Int) ≤ (s.size : Int) := by omega
    clear hs
    go_enter Tryz.func63, Tryz.ntmps63
    go_wp2_with fail
    go_ret
    exact ⟨by first | (simp [h1]; done) | (simp; omega), Touch.refl _ _⟩
theorem plain_any (v : V) (hs : v.s.size ≤ 9223372036854775807) (w : World) (hT : TabsU w) : Calls Tryz.prog 62 #[v.val] w fun e w' => e = .returned (.bool (plainOk v)) ∧ Touch (fun _ => False) w w' := by
  have HL : Hid (∀ W, Touch (fun _ => False) w W → Calls Tryz.prog 64 #[v.val] W fun e w' => e = .returned (.int .i64 (refCheck v)) ∧ Touch (fun _ => False) W w') := fun W t => v_check v hs W (hT.keep t)
  unfold plainOk
  generalize refCheck v = C at *
  clear hs hT
  obtain ⟨k, n, f, s⟩ := v
  simp only [V.val] at *
  obtain ⟨t1, e1⟩ : ∃ t1, (C == 0) = t1 := ⟨_, rfl⟩
  obtain ⟨t2, e2⟩ : ∃ t2, (k != 5) = t2 := ⟨_, rfl⟩
  rw [e1, e2]
  go_enter Tryz.func62, Tryz.ntmps62
  go_wp2_with fail
  refine (HL.out _ ((Touch.refl _ _).alloc _)).mono ?_
  rintro e w1 ⟨rfl, t⟩
  have q := (t.cell (b := w.heap.size) (by simp) id 0).trans (by simp : _ = some (Value.int .i64 k))
  have HT : Hid (Touch (fun _ => False) w w1) := ((Touch.refl _ _).alloc _).trans t
  clear t
  cases t1
  · go_wp2_with fail
    go_ret
    exact ⟨by simp, HT.out⟩
  · go_wp2_with fail
    go_ret
    exact ⟨by simp, HT.out⟩
theorem none_any (c k : Int) (w : World) : Calls Tryz.prog 39 #[.agg #[.int .u64 c, .int .u64 k]] w fun e w' => e = .returned (.bool ((c == 0) && (k == 0))) ∧ Touch (fun _ => False) w w' := by
  obtain ⟨t1, e1⟩ : ∃ t1, (c == 0) = t1 := ⟨_, rfl⟩
  obtain ⟨t2, e2⟩ : ∃ t2, (k == 0) = t2 := ⟨_, rfl⟩
  rw [e1, e2]
  cases t1
  · go_enter Tryz.func39, Tryz.ntmps39
    go_wp2_with fail
    go_ret
    exact ⟨by simp, (Touch.refl _ _).alloc _⟩
  · cases t2
    · go_enter Tryz.func39, Tryz.ntmps39
      go_wp2_with fail
      go_ret
      exact ⟨by simp, (Touch.refl _ _).alloc _⟩
    · go_enter Tryz.func39, Tryz.ntmps39
      go_wp2_with fail
      go_ret
      exact ⟨by simp, (Touch.refl _ _).alloc _⟩
theorem rKey_any (s : ByteArray) (hs : s.size ≤ 17592186044416) (w : World) : Calls Tryz.prog 43 #[.string s] w fun e w' => e = .returned (.bool (keyOk s)) ∧ Touch (fun _ => False) w w' := by
  have HL : Hid (Calls Tryz.prog 41 #[.string s] w fun e w' => e = .returned (.bool (runesOf s.data.toList).isSome) ∧ Touch (fun _ => False) w w') := ref_check3 s hs w
  unfold keyOk
  generalize (runesOf s.data.toList).isSome = r at *
  by_cases h1 : 1 ≤ s.size
  · have g1 : (1 : Int) ≤ (s.size : Int) := by omega
    by_cases h2 : s.size ≤ 64
    · have g2 : (s.size : Int) ≤ 64 := by omega
      clear hs
      go_enter Tryz.func43, Tryz.ntmps43
      go_wp2_with fail
      refine HL.out.mono ?_
      rintro e w1 ⟨rfl, t⟩
      have HT : Hid (Touch (fun _ => False) w w1) := t
      clear t
      go_wp2_with fail
      go_ret
      exact ⟨by first | (simp [h1, h2]; done) | (simp [h1, h2]; omega), HT.out⟩
    · have g2 : ¬ (s.size : Int) ≤ 64 := by omega
      clear hs
      go_enter Tryz.func43, Tryz.ntmps43
      go_wp2_with fail
      go_ret
      exact ⟨by first | (simp [h1, h2]; done) | (simp [h1, h2]; omega), Touch.refl _ _⟩
  · have g1 : ¬ (1 : Int) ≤ (s.size : Int) := by omega
    clear hs
    go_enter Tryz.func43, Tryz.ntmps43
    go_wp2_with fail
    go_ret
    exact ⟨by first | (simp [h1]; done) | (simp; omega), Touch.refl _ _⟩
theorem zero_any (v : V) (hs : v.s.size ≤ 17592186044416) (w : World) : Calls Tryz.prog 42 #[v.val] w fun e w' => e = .returned (.bool ((v.k == 0) && (refCheck v == 0))) ∧ Touch (fun _ => False) w w' := by
  have HL : Hid (∀ W, Calls Tryz.prog 40 #[v.val] W fun e w' => e = .returned (.int .i64 (refCheck v)) ∧ Touch (fun _ => False) W w') := fun W => ref_check v hs W
  generalize refCheck v = C at *
  clear hs
  obtain ⟨k, n, f, s⟩ := v
  simp only [V.val] at *
  obtain ⟨t1, e1⟩ : ∃ t1, (k == 0) = t1 := ⟨_, rfl⟩
  obtain ⟨t2, e2⟩ : ∃ t2, (C == 0) = t2 := ⟨_, rfl⟩
  rw [e1, e2]
  cases t1
  · go_enter Tryz.func42, Tryz.ntmps42
    go_wp2_with fail
    go_ret
    exact ⟨by simp, (Touch.refl _ _).alloc _⟩
  · go_enter Tryz.func42, Tryz.ntmps42
    go_wp2_with fail
    refine (HL.out _).mono ?_
    rintro e w1 ⟨rfl, t⟩
    have HT : Hid (Touch (fun _ => False) w w1) := ((Touch.refl _ _).alloc _).trans t
    clear t
    go_wp2_with fail
    go_ret
    exact ⟨by simp, HT.out⟩
end Go.Proofs.YtphcnjbiojdalaaGreatDoor
