/- The contracts of value.Cmp and value.Same. -/
import Derived.Test.YtodpdcflbnomgaaGreatPart8
import Derived.Deep.RegionHeld
import Derived.Deep.RegionHeld3
import Derived.Deep.MidRow
import Derived.Great.Ranges
import Derived.Test.YtodpdcflbnomgaaGreatPart4
import Derived.Test.YtodpdcflbnomgaaGreatMpE
namespace Go.Proofs.YtodpdcflbnomgaaGreat
open Go.RowKit
set_option linter.unusedVariables false
set_option maxRecDepth 100000

theorem refInts_shift (a b : Int) : refInts (a + 9223372036854775808) (b + 9223372036854775808) = refInts a b := by
  unfold refInts
  by_cases h1 : a < b
  · rw [if_pos (by omega), if_pos h1]
  · rw [if_neg (by omega), if_neg h1]
    by_cases h2 : b < a
    · rw [if_pos (by omega), if_pos h2]
    · rw [if_neg (by omega), if_neg h2]
theorem refCmp_or (a b : V) : firstNZ [refInts a.k b.k, refInts a.n b.n, refInts (refOrder a.f + 9223372036854775808) (refOrder b.f + 9223372036854775808), refText a.s b.s] = refCmp a b := by
  rw [refInts_shift]
  unfold refCmp
  simp only [firstNZ]
  by_cases h1 : refInts a.k b.k ≠ 0
  · rw [if_pos h1, if_pos h1]
  rw [if_neg h1, if_neg h1]
  by_cases h2 : refInts a.n b.n ≠ 0
  · rw [if_pos h2, if_pos h2]
  rw [if_neg h2, if_neg h2]
  by_cases h3 : refInts (refOrder a.f) (refOrder b.f) ≠ 0
  · rw [if_pos h3, if_pos h3]
  rw [if_neg h3, if_neg h3]
  by_cases h4 : refText a.s b.s = 0
  · rw [if_neg (by simpa using h4), h4]
  · rw [if_pos h4]

theorem cells4 (W : World) (t : TypeId) (c1 c2 c3 c4 : Int) (B : Nat) (hB : B = W.heap.size) : ∀ j (hj : j < [c1, c2, c3, c4].length), ((W.alloc (.cells #[.int .i64 c1, .int .i64 c2, .int .i64 c3, .int .i64 c4] t)).drew).cell? ⟨B, j, none⟩ = some (.int .i64 [c1, c2, c3, c4][j]) := by
  intro j hj
  subst hB
  show (W.alloc (.cells #[.int .i64 c1, .int .i64 c2, .int .i64 c3, .int .i64 c4] t)).cell? ⟨W.heap.size, j, none⟩ = _
  rw [cell_of_block (heap_alloc_new _ _)]
  match j, hj with
  | 0, _ => rfl
  | 1, _ => rfl
  | 2, _ => rfl
  | 3, _ => rfl

end Go.Proofs.YtodpdcflbnomgaaGreat

/- Same. -/
namespace Go.Proofs.YtodpdcflbnomgaaGreat
open Go.RowKit
set_option linter.unusedVariables false
set_option linter.unusedSimpArgs false
set_option maxRecDepth 100000

/-- Without its value. -/
def O.noV (o : O) : O := { o with vk := 0, vn := 0, vf := 0, vs := ⟨#[]⟩ }
/-- All fields but the values are alike. -/
def likeO (a b : O) : Bool := ((a.c == b.c) && ((a.k == b.k) && ((a.kind == b.kind) && ((a.st == b.st) && ((a.lc == b.lc) && ((a.lk == b.lk) && ((a.rc == b.rc) && ((a.rk == b.rk) && ((a.tx.toList == b.tx.toList) && ((a.ky.toList == b.ky.toList) && ((a.pc == b.pc) && ((a.pk == b.pk) && ((a.fc == b.fc) && ((a.fk == b.fk) && ((a.fa == b.fa) && ((a.tc == b.tc) && ((a.tk == b.tk) && (a.ta == b.ta))))))))))))))))))
set_option maxHeartbeats 8000000 in
theorem eql_op (a b : O) (w : World) : (binOp .eql 41 a.noV.val b.noV.val).run Tryz.prog w = .ok (.bool (likeO a b)) w := by
  have hu : Tryz.prog.underlying 35 = some (.float .f64) := by kernel_rfl
  have hF0 : ∀ (d : Nat) w, (Op.equalIn (d + 1) 35 (Value.float .f64 0) (Value.float .f64 0)).run Tryz.prog w = .ok true w := by
    intro d w
    simp [Op.equalIn, run_underlying hu]
    try kernel_rfl
  have hF : ∀ w, (Op.equalIn 9998 35 (Value.float .f64 0) (Value.float .f64 0)).run Tryz.prog w = .ok true w := fun w => hF0 9997 w
  clear hF0
  unfold likeO
  simp only [O.noV]
  go_simp
  rcases Classical.em (a.c = b.c) with h1 | h1
  rotate_left
  · simp [h1]
  rcases Classical.em (a.k = b.k) with h2 | h2
  rotate_left
  · simp [h2]
  rcases Classical.em (a.kind = b.kind) with h3 | h3
  rotate_left
  · simp [h3]
  rcases Classical.em (a.st = b.st) with h4 | h4
  rotate_left
  · simp [h4]
  rcases Classical.em (a.lc = b.lc) with h5 | h5
  rotate_left
  · simp [h5]
  rcases Classical.em (a.lk = b.lk) with h6 | h6
  rotate_left
  · simp [h6]
  rcases Classical.em (a.rc = b.rc) with h7 | h7
  rotate_left
  · simp [h7]
  rcases Classical.em (a.rk = b.rk) with h8 | h8
  rotate_left
  · simp [h8]
  rcases Classical.em (a.tx.toList = b.tx.toList) with h9 | h9
  rotate_left
  · simp [h9]
  rcases Classical.em (a.ky.toList = b.ky.toList) with h10 | h10
  rotate_left
  · simp [h10]
  rcases Classical.em (a.pc = b.pc) with h11 | h11
  rotate_left
  · simp [h11]
  rcases Classical.em (a.pk = b.pk) with h12 | h12
  rotate_left
  · simp [h12]
  rcases Classical.em (a.fc = b.fc) with h13 | h13
  rotate_left
  · simp [h13]
  rcases Classical.em (a.fk = b.fk) with h14 | h14
  rotate_left
  · simp [h14]
  rcases Classical.em (a.fa = b.fa) with h15 | h15
  rotate_left
  · simp [h15]
  rcases Classical.em (a.tc = b.tc) with h16 | h16
  rotate_left
  · simp [h16]
  rcases Classical.em (a.tk = b.tk) with h17 | h17
  rotate_left
  · simp [h17]
  rcases Classical.em (a.ta = b.ta) with h18 | h18
  rotate_left
  · simp [h18]
  simp [h1, h2, h3, h4, h5, h6, h7, h8, h9, h10, h11, h12, h13, h14, h15, h16, h17, h18]

theorem wp_eql_agg {P : Program} {op : Oper} {a : Act} {w : World} {K : Act → World → Prop} {Q : Exit → Act → World → Prop} (ty rt : TypeId) (x y : Operand) (ho : op.op = .binOp .eql ty x y rt)
    (xs ys : Array Value) (hx : a.eval x = .agg xs) (hy : a.eval y = .agg ys) (hm : P.eqGuardType P.depth ty = false) (r : Bool) (hr : (binOp .eql ty (.agg xs) (.agg ys)).run P w = .ok (.bool r) w)
    (h : K (a.put op.dst (.bool r)) w) : op.wp P a w K Q := by
  unfold Oper.wp execOp
  simp only [ho, hx, hy, Sem.run_bind, Sem.run_pure, Result.andThen_ok, run_eqGuard_agg, hm, hr]
  exact h
/-- The world in which a box's value has been cleared. -/
def clearV (W : World) (B : Nat) : World := W.setCells B 9 [.int .i64 0, .int .i64 0, .float .f64 0, .string ⟨#[]⟩]
theorem OpAt.there {W : World} {B : Nat} {o : O} (h : OpAt B o W) (k n : Nat) (hk : k + n ≤ 22) : W.there B k n := by
  intro j hj
  refine ⟨?_, free_of_block h⟩
  rw [cell_of_block h, Array.getElem?_eq_getElem (by show k + j < 22; omega)]
  rfl
theorem OpAt.clearV {W : World} {B : Nat} {o : O} (h : OpAt B o W) : OpAt B o.noV (clearV W B) := by
  unfold OpAt at h
  have h0 := heap_setCell_same W B 9 (.int .i64 0) h
  have h1 := heap_setCell_same _ B 10 (.int .i64 0) h0
  have h2 := heap_setCell_same _ B 11 (.float .f64 0) h1
  have h3 := heap_setCell_same _ B 12 (.string ⟨#[]⟩) h2
  exact h3
theorem OpAt.clearV_other {W : World} {B C : Nat} {o : O} (h : OpAt B o W) (hc : C ≠ B) : OpAt B o (Go.Proofs.YtodpdcflbnomgaaGreat.clearV W C) := by
  unfold OpAt at *
  show ((((W.setCell ⟨C, 9, none⟩ (.int .i64 0)).setCell ⟨C, 10, none⟩ (.int .i64 0)).setCell ⟨C, 11, none⟩ (.float .f64 0)).setCell ⟨C, 12, none⟩ (.string ⟨#[]⟩)).heap[B]? = _
  rw [heap_setCell_other _ _ _ _ hc, heap_setCell_other _ _ _ _ hc, heap_setCell_other _ _ _ _ hc, heap_setCell_other _ _ _ _ hc]
  exact h
theorem Touch.clearV {w W : World} {B : Nat} (t : Touch (fun _ => False) w W) (hB : w.heap.size ≤ B) : Touch (fun _ => False) w (Go.Proofs.YtodpdcflbnomgaaGreat.clearV W B) := by
  have n : B < w.heap.size → False := fun h => absurd h (by omega)
  have t0 := t.setCell ⟨B, 9, none⟩ (.int .i64 0) n
  have t1 := t0.setCell ⟨B, 10, none⟩ (.int .i64 0) n
  have t2 := t1.setCell ⟨B, 11, none⟩ (.float .f64 0) n
  exact t2.setCell ⟨B, 12, none⟩ (.string ⟨#[]⟩) n
end Go.Proofs.YtodpdcflbnomgaaGreat

/- Package maps: an operation's box; isMap; (rank).greatest. -/
namespace Go.Proofs.YtodpdcflbnomgaaGreat
open Go.RowKit
set_option linter.unusedVariables false
set_option linter.unusedSimpArgs false
set_option maxRecDepth 100000

theorem World.rangeAt_keep {w w' : World} {b o : Nat} {cs : List Value} {Z : Nat → Prop} (h : w.rangeAt b o cs) (t : Touch Z w w') (hb : ¬ Z b) : w'.rangeAt b o cs := fun j v hj => by
  have h1 := h j v hj
  have hl := World.block_lt_of_cell? _ _ h1
  rw [← h1]
  simp only [World.cell?, t.block b hl hb]
theorem cells_storedS {W : World} {B : Nat} {C : Array Value} {t : TypeId} (h : W.heap[B]? = some (.cells C t (0, 0))) (k : Nat) (vs : List Value) : (W.setCells B k vs).heap[B]? = some (.cells ((vs.zipIdx k).foldl (fun (c : Array Value) x => c.setIfInBounds x.2 x.1) C) t (0, 0)) := by
  have key : ∀ (vs : List Value) (k : Nat) (W : World) (c : Array Value), W.heap[B]? = some (.cells c t (0, 0)) → (W.setCells B k vs).heap[B]? = some (.cells ((vs.zipIdx k).foldl (fun (c : Array Value) x => c.setIfInBounds x.2 x.1) c) t (0, 0)) := by
    intro vs
    induction vs with
    | nil => intro k W c h; exact h
    | cons v r ih =>
      intro k W c h
      rw [World.setCells]
      exact ih (k + 1) _ _ (heap_setCell_same W B k v h)
  exact key vs k W C h
theorem there_ofS {W : World} {B : Nat} {C : Array Value} {t : TypeId} (h : W.heap[B]? = some (.cells C t (0, 0))) (k n : Nat) (hk : k + n ≤ C.size) : W.there B k n := by
  intro j hj
  refine ⟨?_, free_of_block h⟩
  rw [cell_of_block h, Array.getElem?_eq_getElem (by omega)]
  rfl
theorem rangeAt_ofS {W : World} {B : Nat} {o : O} (h : W.heap[B]? = some (opO o)) : W.rangeAt B 0 o.vals.toList := by
  intro j v hv
  rw [Nat.zero_add, cell_of_block (i := j) h]
  simpa using hv
theorem Touch.stores {w W : World} {B : Nat} (t : Touch (fun _ => False) w W) (hB : w.heap.size ≤ B) (k : Nat) (vs : List Value) : Touch (fun _ => False) w (W.setCells B k vs) := by
  have key : ∀ (vs : List Value) (k : Nat) (W : World), Touch (fun _ => False) w W → Touch (fun _ => False) w (W.setCells B k vs) := by
    intro vs
    induction vs with
    | nil => intro k W t; exact t
    | cons v r ih =>
      intro k W t
      rw [World.setCells]
      exact ih (k + 1) _ (t.setCell ⟨B, k, none⟩ v (fun h => absurd h (by show ¬ B < _; omega)))
  exact key vs k W t
theorem OpAt.store0 {B : Nat} {o o' : O} {w : World} (h : OpAt B o w) : OpAt B o' (w.setCells B 0 o'.vals.toList) := by
  unfold OpAt
  rw [cells_storedS h]
  kernel_rfl
abbrev zeroOp : Obj := .cells #[.int .u64 0, .int .u64 0, .int .i64 0, .int .u64 0, .int .u64 0, .int .u64 0, .int .u64 0, .int .u64 0, .string ⟨#[]⟩, .int .i64 0, .int .i64 0, .float .f64 0, .string ⟨#[]⟩, .string ⟨#[]⟩, .int .u64 0, .int .u64 0, .int .u64 0, .int .u64 0, .bool false, .int .u64 0, .int .u64 0, .bool false] 41
/-- A new box, and an operation stored in it. -/
theorem newOp (W : World) (o : O) : Touch (fun _ => False) W ((W.alloc zeroOp).setCells W.heap.size 0 o.vals.toList) ∧ ((W.alloc zeroOp).setCells W.heap.size 0 o.vals.toList).heap[W.heap.size]? = some (opO o) := by
  refine ⟨((Touch.refl _ _).alloc _).stores (Nat.le_refl _) 0 _, ?_⟩
  rw [cells_storedS (heap_alloc_new W zeroOp)]
  kernel_rfl
/-- isMap, as a test. -/
def isMapB (o : O) : Bool := decide (o.vk = 5)
set_option maxHeartbeats 4000000 in
theorem isMap_any (o : O) (w : World) : Calls Tryz.prog 29 #[o.val] w fun e w' => e = .returned (.bool (isMapB o)) ∧ Touch (fun _ => False) w w' := by
  obtain ⟨E, hE⟩ : ∃ E, Hid (E = w.alloc (opO o)) := ⟨_, Eq.refl _⟩
  have HTE : Hid (Touch (fun _ => False) w E) := by rw [hE.out]; exact (Touch.refl _ _).alloc _
  have h9 : E.cell? ⟨w.heap.size, 9, none⟩ = some (.int .i64 o.vk) := by rw [hE.out]; exact OpAt.q9 (heap_alloc_new w (opO o))
  have HR : Hid (isMapB o = (o.vk == 5)) := by unfold isMapB Hid; simp [BEq.beq]
  rw [HR.out]
  clear HR
  go_enter Tryz.func29, Tryz.ntmps29
  go_upto_region 1 with fail
  rw [← hE.out]
  clear hE
  go_wp2_with fail
  go_ret
  exact ⟨rfl, HTE.out⟩
/-- greatest, as a function. -/
def greatO (sh : Int → Int → Bool) (r : List O) : O := if fromO sh r 0 < 0 then zeroO else r.getD (fromO sh r 0).toNat zeroO
def hasO (sh : Int → Int → Bool) (r : List O) : Bool := decide (0 ≤ fromO sh r 0)
set_option maxHeartbeats 8000000 in
theorem great_any (r : List O) (g : Nat) (v : Value) (sh : Int → Int → Bool) (w : World) (hs : SlP w v r) (hl : r.length ≤ 1073741824)
    (hf : ∀ W c k, Touch (fun _ => False) w W → Calls Tryz.prog 25 #[.pointer (some ⟨g, 0, none⟩), idV c k] W fun e w' => e = .returned (.bool (sh c k)) ∧ Touch (fun _ => False) W w') :
    Calls Tryz.prog 24 #[v, .func (.func 25) #[.pointer (some ⟨g, 0, none⟩)] #[]] w fun e w' => e = .returned (.tuple #[(greatO sh r).val, .bool (hasO sh r)]) ∧ Touch (fun _ => False) w w' := by
  obtain ⟨E, hE⟩ : ∃ E, Hid (E = w.alloc zeroOp) := ⟨_, Eq.refl _⟩
  have HTE : Hid (Touch (fun _ => False) w E) := by rw [hE.out]; exact (Touch.refl _ _).alloc _
  have HB : Hid (OpAt w.heap.size zeroO E) := by rw [hE.out]; exact heap_alloc_new _ _
  have HF : Hid (∀ W, Touch (fun _ => False) w W → Calls Tryz.prog 44 #[v, .int .i64 0, .func (.func 25) #[.pointer (some ⟨g, 0, none⟩)] #[]] W fun e w' => e = .returned (.int .i64 (fromO sh r 0)) ∧ Touch (fun _ => False) W w') := fun W t => from_any r g v sh w hs hl hf r.length 0 (by omega) (by omega) W t
  have HSl : Hid (SlP w v r) := hs
  have hlt := fromO_lt sh r r.length 0 (by omega)
  have HG : Hid (greatO sh r = if fromO sh r 0 < 0 then zeroO else r.getD (fromO sh r 0).toNat zeroO) := rfl
  have HH : Hid (hasO sh r = decide (0 ≤ fromO sh r 0)) := rfl
  generalize greatO sh r = G at *
  generalize hasO sh r = H at *
  generalize fromO sh r 0 = x at *
  obtain ⟨ao, cap, rfl, h1, h2, h3⟩ := hs.shape
  clear hf hs
  by_cases hx : x < 0
  · have hG : G = zeroO := by rw [HG.out, if_pos hx]
    have hH : H = false := by rw [HH.out]; exact decide_eq_false (by omega)
    subst hG hH
    clear HG HH h1 h2 h3 hl
    generalize r.length = n at *
    go_enter Tryz.func24, Tryz.ntmps24
    go_upto_region 1 with fail
    rw [← hE.out]
    clear hE
    go_wp2_with fail
    refine (HF.out _ HTE.out).mono ?_
    rintro e W1 ⟨rfl, t1⟩
    have HT1 : Hid (Touch (fun _ => False) w W1) := HTE.out.trans t1
    have HB1 : Hid (OpAt w.heap.size zeroO W1) := HB.out.keep t1
    clear t1 HB HTE HF
    go_upto_region 3 with fail
    refine wp_region_lit ?_
    refine wpList_plain rfl fun K hK => ?_
    go_simp
    refine hK _ _ ?_
    clear hK K
    refine wpList_store_mid rfl 41 (.tmp 4) (.tmp 12) rfl w.heap.size 0 zeroO.vals rfl rfl (HB1.out.there 0 22 (by decide)) (by kernel_rfl) (by kernel_rfl) ?_
    simp only [Act.put]
    obtain ⟨W2, hW2⟩ : ∃ W2, Hid (W2 = W1.setCells w.heap.size 0 zeroO.vals.toList) := ⟨_, Eq.refl _⟩
    have HT2 : Hid (Touch (fun _ => False) w W2) := by rw [hW2.out]; exact HT1.out.stores (Nat.le_refl _) 0 _
    have HB2 : Hid (OpAt w.heap.size zeroO W2) := by rw [hW2.out]; exact HB1.out.store0
    rw [← hW2.out]
    clear hW2 HB1 HT1
    go_wp2_with fail
    have hLd := run_loadVar_mid (P := Tryz.prog) W2 w.heap.size 0 41 zeroO.vals.toList _ (rangeAt_of HB2.out) Tryz.underlying41 rfl (by kernel_rfl)
    refine bodyPost_ret (v := .tuple #[zeroO.val, .bool false]) ?_ rfl ⟨rfl, HT2.out⟩
    simp [results, Tryz.results24, asAddr, hLd]
  · obtain ⟨m, rfl⟩ : ∃ m : Nat, x = m := ⟨x.toNat, by omega⟩
    have hm : m < r.length := by omega
    have hG : G = r[m] := by rw [HG.out, if_neg hx, Int.toNat_natCast, rowO_at r m hm]
    have hH : H = true := by rw [HH.out]; exact decide_eq_true (by omega)
    subst hH
    have hne : r ≠ [] := by rintro rfl; simp at hm
    obtain ⟨b, o, cap', hv, hcap, hcm, hrow⟩ := HSl.out.row hne
    simp only [Value.slice.injEq] at hv
    obtain ⟨rfl, -, rfl⟩ := hv
    have hrm := hrow m hm
    rw [← hG] at hrm
    have HRM : Hid (∀ W, Touch (fun _ => False) w W → W.rangeAt b (o + m * 22) G.vals.toList) := fun W t => World.rangeAt_keep hrm t id
    have l1 : (m : Int) < (r.length : Int) := by omega
    have l0 : (0 : Int) ≤ (m : Int) := by omega
    have l2 : (m : Int) ≤ 1073741824 := by omega
    clear HG HH h1 h2 h3 hl hrow hrm hne HSl hG
    generalize r.length = n at *
    go_enter Tryz.func24, Tryz.ntmps24
    go_upto_region 1 with fail
    rw [← hE.out]
    clear hE
    go_wp2_with fail
    refine (HF.out _ HTE.out).mono ?_
    rintro e W1 ⟨rfl, t1⟩
    have HT1 : Hid (Touch (fun _ => False) w W1) := HTE.out.trans t1
    have HB1 : Hid (OpAt w.heap.size zeroO W1) := HB.out.keep t1
    clear t1 HB HTE HF
    go_upto_region 4 with fail
    refine wp_region_lit ?_
    iterate 3 (refine wpList_plain rfl fun K hK => ?_; go_simp; refine hK _ _ ?_; clear hK K)
    refine wpList_load_mid rfl 41 (.tmp 15) rfl b (o + m * 22) rfl G.vals.toList _ (HRM.out _ HT1.out) Tryz.underlying41 rfl (by kernel_rfl) ?_
    simp only [Act.put, List.setIfInBounds_toArray, List.set_cons_succ, List.set_cons_zero]
    refine wpList_store_mid rfl 41 (.tmp 4) (.tmp 16) rfl w.heap.size 0 G.vals rfl rfl (HB1.out.there 0 22 (by decide)) (by kernel_rfl) (by kernel_rfl) ?_
    simp only [Act.put]
    obtain ⟨W2, hW2⟩ : ∃ W2, Hid (W2 = W1.setCells w.heap.size 0 G.vals.toList) := ⟨_, Eq.refl _⟩
    have HT2 : Hid (Touch (fun _ => False) w W2) := by rw [hW2.out]; exact HT1.out.stores (Nat.le_refl _) 0 _
    have HB2 : Hid (OpAt w.heap.size G W2) := by rw [hW2.out]; exact HB1.out.store0
    rw [← hW2.out]
    clear hW2 HB1 HT1
    go_wp2_with fail
    have hLd := run_loadVar_mid (P := Tryz.prog) W2 w.heap.size 0 41 G.vals.toList _ (rangeAt_of HB2.out) Tryz.underlying41 rfl (by kernel_rfl)
    refine bodyPost_ret (v := .tuple #[G.val, .bool true]) ?_ rfl ⟨rfl, HT2.out⟩
    simp [results, Tryz.results24, asAddr, hLd]
end Go.Proofs.YtodpdcflbnomgaaGreat
