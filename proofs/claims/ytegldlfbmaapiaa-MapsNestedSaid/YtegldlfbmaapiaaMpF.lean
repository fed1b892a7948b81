/- Package maps: an operation's box; isMap; (rank).greatest. -/
import Derived.Test.YtegldlfbmaapiaaPart4
import Derived.Test.YtegldlfbmaapiaaMpE
import Derived.Test.YtegldlfbmaapiaaPart10
import Derived.Test.YtegldlfbmaapiaaPart11
import Derived.Deep.MidRow
namespace Go.Proofs.Ytegldlfbmaapiaa
open Go.RowKit
set_option linter.unusedVariables false
set_option linter.unusedSimpArgs false
set_option maxRecDepth 100000

theorem World.rangeAt_keep {w w' : World} {b o : Nat} {cs : List Value} {Z : Nat → Prop} (h : w.rangeAt b o cs) (t : Touch Z w w') (hb : ¬ Z b) : w'.rangeAt b o cs := fun j v hj => by
  have h1 := h j v hj
  have hl := World.block_lt_of_cell? _ _ h1
  rw [← h1]
  simp only [World.cell?, t.block b hl hb]
theorem cells_storedS {W : World} {B : Nat} {C : Array Value} {t : TypeId} (h : W.heap[B]? = some (.cells C t (0, 0))) (k : Nat) (vs : List Value) : (W.setCells B k vs).heap[B]? = some (.cells ((vs.zipIdx k).foldl (fun (c : Array Value) x => c.setIfInBounds x.2 x.1) C) t (0, 0)) := by
  have key : ∀ (vs : List Value) (k : Nat) (W : World) (c : Array Value), W.heap[B]? = some (.cells c t (0, 0)) → (W.setCells B k vs).heap[B]? = some (.cells ((vs.zipIdx k).foldl (fun (c : Array Value) x => c.setIfInBounds x.2 x.1) c) t (0, 0)) := by
    intro vs
    induction vs with
    | nil => intro k W c h; exact h
    | cons v r ih =>
      intro k W c h
      rw [World.setCells]
      exact ih (k + 1) _ _ (heap_setCell_same W B k v h)
  exact key vs k W C h
theorem there_ofS {W : World} {B : Nat} {C : Array Value} {t : TypeId} (h : W.heap[B]? = some (.cells C t (0, 0))) (k n : Nat) (hk : k + n ≤ C.size) : W.there B k n := by
  intro j hj
  refine ⟨?_, free_of_block h⟩
  rw [cell_of_block h, Array.getElem?_eq_getElem (by omega)]
  rfl
theorem rangeAt_ofS {W : World} {B : Nat} {o : O} (h : W.heap[B]? = some (opO o)) : W.rangeAt B 0 o.vals.toList := by
  intro j v hv
  rw [Nat.zero_add, cell_of_block (i := j) h]
  simpa using hv
theorem Touch.stores {w W : World} {B : Nat} (t : Touch (fun _ => False) w W) (hB : w.heap.size ≤ B) (k : Nat) (vs : List Value) : Touch (fun _ => False) w (W.setCells B k vs) := by
  have key : ∀ (vs : List Value) (k : Nat) (W : World), Touch (fun _ => False) w W → Touch (fun _ => False) w (W.setCells B k vs) := by
    intro vs
    induction vs with
    | nil => intro k W t; exact t
    | cons v r ih =>
      intro k W t
      rw [World.setCells]
      exact ih (k + 1) _ (t.setCell ⟨B, k, none⟩ v (fun h => absurd h (by show ¬ B < _; omega)))
  exact key vs k W t
theorem OpAt.store0 {B : Nat} {o o' : O} {w : World} (h : OpAt B o w) : OpAt B o' (w.setCells B 0 o'.vals.toList) := by
  unfold OpAt
  rw [cells_storedS h]
  kernel_rfl
abbrev zeroOp : Obj := .cells #[.int .u64 0, .int .u64 0, .int .i64 0, .int .u64 0, .int .u64 0, .int .u64 0, .int .u64 0, .int .u64 0, .string ⟨#[]⟩, .int .i64 0, .int .i64 0, .float .f64 0, .string ⟨#[]⟩, .string ⟨#[]⟩, .int .u64 0, .int .u64 0, .int .u64 0, .int .u64 0, .bool false, .int .u64 0, .int .u64 0, .bool false] 41
/-- A new box, and an operation stored in it. -/
theorem newOp (W : World) (o : O) : Touch (fun _ => False) W ((W.alloc zeroOp).setCells W.heap.size 0 o.vals.toList) ∧ ((W.alloc zeroOp).setCells W.heap.size 0 o.vals.toList).heap[W.heap.size]? = some (opO o) := by
  refine ⟨((Touch.refl _ _).alloc _).stores (Nat.le_refl _) 0 _, ?_⟩
  rw [cells_storedS (heap_alloc_new W zeroOp)]
  kernel_rfl
/-- isMap, as a test. -/
def isMapB (o : O) : Bool := decide (o.vk = 5)
set_option maxHeartbeats 4000000 in
theorem isMap_any (o : O) (w : World) : Calls Try.prog 24 #[o.val] w fun e w' => e = .returned (.bool (isMapB o)) ∧ Touch (fun _ => False) w w' := by
  obtain ⟨E, hE⟩ : ∃ E, Hid (E = w.alloc (opO o)) := ⟨_, Eq.refl _⟩
  have HTE : Hid (Touch (fun _ => False) w E) := by rw [hE.out]; exact (Touch.refl _ _).alloc _
  have h9 : E.cell? ⟨w.heap.size, 9, none⟩ = some (.int .i64 o.vk) := by rw [hE.out]; exact OpAt.q9 (heap_alloc_new w (opO o))
  have HR : Hid (isMapB o = (o.vk == 5)) := by unfold isMapB Hid; simp [BEq.beq]
  rw [HR.out]
  clear HR
  go_enter Try.func24, Try.ntmps24
  go_upto_region 1 with fail
  rw [← hE.out]
  clear hE
  go_wp2_with fail
  go_ret
  exact ⟨rfl, HTE.out⟩
/-- greatest, as a function. -/
def greatO (sh : Int → Int → Bool) (r : List O) : O := if fromO sh r 0 < 0 then zeroO else r.getD (fromO sh r 0).toNat zeroO
def hasO (sh : Int → Int → Bool) (r : List O) : Bool := decide (0 ≤ fromO sh r 0)
set_option maxHeartbeats 8000000 in
theorem great_any (r : List O) (g : Nat) (v : Value) (sh : Int → Int → Bool) (w : World) (hs : SlP w v r) (hl : r.length ≤ 1073741824)
    (hf : ∀ W c k, Touch (fun _ => False) w W → Calls Try.prog 38 #[.pointer (some ⟨g, 0, none⟩), idV c k] W fun e w' => e = .returned (.bool (sh c k)) ∧ Touch (fun _ => False) W w') :
    Calls Try.prog 37 #[v, .func (.func 38) #[.pointer (some ⟨g, 0, none⟩)] #[]] w fun e w' => e = .returned (.tuple #[(greatO sh r).val, .bool (hasO sh r)]) ∧ Touch (fun _ => False) w w' := by
  obtain ⟨E, hE⟩ : ∃ E, Hid (E = w.alloc zeroOp) := ⟨_, Eq.refl _⟩
  have HTE : Hid (Touch (fun _ => False) w E) := by rw [hE.out]; exact (Touch.refl _ _).alloc _
  have HB : Hid (OpAt w.heap.size zeroO E) := by rw [hE.out]; exact heap_alloc_new _ _
  have HF : Hid (∀ W, Touch (fun _ => False) w W → Calls Try.prog 56 #[v, .int .i64 0, .func (.func 38) #[.pointer (some ⟨g, 0, none⟩)] #[]] W fun e w' => e = .returned (.int .i64 (fromO sh r 0)) ∧ Touch (fun _ => False) W w') := fun W t => from_any r g v sh w hs hl hf r.length 0 (by omega) (by omega) W t
  have HSl : Hid (SlP w v r) := hs
  have hlt := fromO_lt sh r r.length 0 (by omega)
  have HG : Hid (greatO sh r = if fromO sh r 0 < 0 then zeroO else r.getD (fromO sh r 0).toNat zeroO) := rfl
  have HH : Hid (hasO sh r = decide (0 ≤ fromO sh r 0)) := rfl
  generalize greatO sh r = G at *
  generalize hasO sh r = H at *
  generalize fromO sh r 0 = x at *
  obtain ⟨ao, cap, rfl, h1, h2, h3⟩ := hs.shape
  clear hf hs
  by_cases hx : x < 0
  · have hG : G = zeroO := by rw [HG.out, if_pos hx]
    have hH : H = false := by rw [HH.out]; exact decide_eq_false (by omega)
    subst hG hH
    clear HG HH h1 h2 h3 hl
    generalize r.length = n at *
    go_enter Try.func37, Try.ntmps37
    go_upto_region 1 with fail
    rw [← hE.out]
    clear hE
    go_wp2_with fail
    refine (HF.out _ HTE.out).mono ?_
    rintro e W1 ⟨rfl, t1⟩
    have HT1 : Hid (Touch (fun _ => False) w W1) := HTE.out.trans t1
    have HB1 : Hid (OpAt w.heap.size zeroO W1) := HB.out.keep t1
    clear t1 HB HTE HF
    go_upto_region 3 with fail
    refine wp_region_lit ?_
    refine wpList_plain rfl fun K hK => ?_
    go_simp
    refine hK _ _ ?_
    clear hK K
    refine wpList_store_mid rfl 41 (.tmp 4) (.tmp 12) rfl w.heap.size 0 zeroO.vals rfl rfl (HB1.out.there 0 22 (by decide)) (by kernel_rfl) (by kernel_rfl) ?_
    simp only [Act.put]
    obtain ⟨W2, hW2⟩ : ∃ W2, Hid (W2 = W1.setCells w.heap.size 0 zeroO.vals.toList) := ⟨_, Eq.refl _⟩
    have HT2 : Hid (Touch (fun _ => False) w W2) := by rw [hW2.out]; exact HT1.out.stores (Nat.le_refl _) 0 _
    have HB2 : Hid (OpAt w.heap.size zeroO W2) := by rw [hW2.out]; exact HB1.out.store0
    rw [← hW2.out]
    clear hW2 HB1 HT1
    go_wp2_with fail
    have hLd := run_loadVar_mid (P := Try.prog) W2 w.heap.size 0 41 zeroO.vals.toList _ (rangeAt_of HB2.out) Try.underlying41 rfl (by kernel_rfl)
    refine bodyPost_ret (v := .tuple #[zeroO.val, .bool false]) ?_ rfl ⟨rfl, HT2.out⟩
    simp [results, Try.results37, asAddr, hLd]
  · obtain ⟨m, rfl⟩ : ∃ m : Nat, x = m := ⟨x.toNat, by omega⟩
    have hm : m < r.length := by omega
    have hG : G = r[m] := by rw [HG.out, if_neg hx, Int.toNat_natCast, rowO_at r m hm]
    have hH : H = true := by rw [HH.out]; exact decide_eq_true (by omega)
    subst hH
    have hne : r ≠ [] := by rintro rfl; simp at hm
    obtain ⟨b, o, cap', hv, hcap, hcm, hrow⟩ := HSl.out.row hne
    simp only [Value.slice.injEq] at hv
    obtain ⟨rfl, -, rfl⟩ := hv
    have hrm := hrow m hm
    rw [← hG] at hrm
    have HRM : Hid (∀ W, Touch (fun _ => False) w W → W.rangeAt b (o + m * 22) G.vals.toList) := fun W t => World.rangeAt_keep hrm t id
    have l1 : (m : Int) < (r.length : Int) := by omega
    have l0 : (0 : Int) ≤ (m : Int) := by omega
    have l2 : (m : Int) ≤ 1073741824 := by omega
    clear HG HH h1 h2 h3 hl hrow hrm hne HSl hG
    generalize r.length = n at *
    go_enter Try.func37, Try.ntmps37
    go_upto_region 1 with fail
    rw [← hE.out]
    clear hE
    go_wp2_with fail
    refine (HF.out _ HTE.out).mono ?_
    rintro e W1 ⟨rfl, t1⟩
    have HT1 : Hid (Touch (fun _ => False) w W1) := HTE.out.trans t1
    have HB1 : Hid (OpAt w.heap.size zeroO W1) := HB.out.keep t1
    clear t1 HB HTE HF
    go_upto_region 4 with fail
    refine wp_region_lit ?_
    iterate 3 (refine wpList_plain rfl fun K hK => ?_; go_simp; refine hK _ _ ?_; clear hK K)
    refine wpList_load_mid rfl 41 (.tmp 15) rfl b (o + m * 22) rfl G.vals.toList _ (HRM.out _ HT1.out) Try.underlying41 rfl (by kernel_rfl) ?_
    simp only [Act.put, List.setIfInBounds_toArray, List.set_cons_succ, List.set_cons_zero]
    refine wpList_store_mid rfl 41 (.tmp 4) (.tmp 16) rfl w.heap.size 0 G.vals rfl rfl (HB1.out.there 0 22 (by decide)) (by kernel_rfl) (by kernel_rfl) ?_
    simp only [Act.put]
    obtain ⟨W2, hW2⟩ : ∃ W2, Hid (W2 = W1.setCells w.heap.size 0 G.vals.toList) := ⟨_, Eq.refl _⟩
    have HT2 : Hid (Touch (fun _ => False) w W2) := by rw [hW2.out]; exact HT1.out.stores (Nat.le_refl _) 0 _
    have HB2 : Hid (OpAt w.heap.size G W2) := by rw [hW2.out]; exact HB1.out.store0
    rw [← hW2.out]
    clear hW2 HB1 HT1
    go_wp2_with fail
    have hLd := run_loadVar_mid (P := Try.prog) W2 w.heap.size 0 41 G.vals.toList _ (rangeAt_of HB2.out) Try.underlying41 rfl (by kernel_rfl)
    refine bodyPost_ret (v := .tuple #[G.val, .bool true]) ?_ rfl ⟨rfl, HT2.out⟩
    simp [results, Try.results37, asAddr, hLd]
end Go.Proofs.Ytegldlfbmaapiaa
