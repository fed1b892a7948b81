/- The tables of unicode/utf8, as ValidString reads them. -/
import Derived.Test.YtmknkecaeagmbaaGreatDoorPart1
import Derived.Test.YtmknkecaeagmbaaGreatDoorPart2
import Derived.Lib.LaidU8T
import Derived.PinnedBridge
import Derived.Test.YtmknkecaeagmbaaGreatDoorPart3
import Derived.RangeFuncBox
import Derived.WalkKit
import Derived.Test.YtmknkecaeagmbaaGreatDoorProg
namespace Go.Proofs.YtmknkecaeagmbaaGreatDoor
open Go.RowKit
set_option linter.unusedVariables false
set_option maxRecDepth 100000

/-- Both tables lie as their initialisers lay them. -/
def TabsU (w : World) : Prop := Go.Lib.Utf8Tabs (Tryz.lays196_ren.g 3) (Tryz.lays196_ren.g 4) w
theorem TabsU.keep {w w' : World} (h : TabsU w) (hT : Touch (fun _ => False) w w') : TabsU w' := by
  have go : ∀ (b o : Nat) (v : Value), w.cell? ⟨b, o, none⟩ = some v → w'.cell? ⟨b, o, none⟩ = some v := fun b o v hv => (hT.cell (World.block_lt_of_cell? _ _ hv) id o).trans hv
  exact ⟨fun c hc => go _ _ _ (h.1 c hc), fun i hi => ⟨go _ _ _ (h.2 i hi).1, go _ _ _ (h.2 i hi).2⟩⟩
theorem tabsU_of {w : World} (h3 : Go.Lib.VarReads Tryz.prog w "unicode/utf8.first" Go.Lib.firstData) (h4 : Go.Lib.VarReads Tryz.prog w "unicode/utf8.acceptRanges" Go.Lib.acceptData) : TabsU w :=
  utf8Tabs_of_readsT (U8Types.of196 Tryz.lays196) ⟨by kernel_rfl, by kernel_rfl, by kernel_rfl, by kernel_rfl, by kernel_rfl, by kernel_rfl, by kernel_rfl⟩ h3 h4
/-- ValidString: the document's texts. -/
theorem valid_any (s : ByteArray) (hs : s.size ≤ 9223372036854775807) (w : World) (hT : TabsU w) : Calls Tryz.prog 89 #[.string s] w fun e w' => e = .returned (.bool (runesOf s.data.toList).isSome) ∧ Touch (fun _ => False) w w' := by
  refine (Tryz.utf8_ValidString s w hs hT).mono ?_
  rintro e w' ⟨rfl, hb⟩
  exact ⟨by rw [valid_runes], ⟨hb.os, hb.tape, hb.output, hb.size, fun k hk _ => hb.block k hk⟩⟩
end Go.Proofs.YtmknkecaeagmbaaGreatDoor

/- The contracts of utf.Check, Runes, Len, Len16. -/
namespace Go.Proofs.YtmknkecaeagmbaaGreatDoor
open Go.RowKit Go.Shelf
set_option linter.unusedVariables false
set_option maxRecDepth 100000
attribute [local go_sem] Oper.semAt_some

set_option maxHeartbeats 400000 in
theorem utf_check (s : ByteArray) (hs : s.size ≤ 9223372036854775807) (w : World) (hT : TabsU w) : Calls Tryz.prog 88 #[.string s] w fun e w' => e = .returned (.bool (runesOf s.data.toList).isSome) ∧ Touch (fun _ => False) w w' := by
  have HV : Hid (Calls Tryz.prog 89 #[.string s] w fun e w' => e = .returned (.bool (runesOf s.data.toList).isSome) ∧ Touch (fun _ => False) w w') := valid_any s hs w hT
  clear hT
  go_enter Tryz.func88, Tryz.ntmps88
  go_wp2_with fail
  refine HV.out.mono ?_
  rintro e w1 ⟨rfl, hT⟩
  go_wp2_with fail
  go_ret
  exact ⟨rfl, hT⟩

set_option maxHeartbeats 400000 in
theorem utf_runes (s : ByteArray) (w : World) : Calls Tryz.prog 70 #[.string s] w fun e w' => e = .returned (.func (.func 97) #[] #[.pointer (some ⟨w.heap.size, 0, none⟩)]) ∧ w' = w.alloc (.cells #[.string s] 9) := by
  go_enter Tryz.func70, Tryz.ntmps70
  go_wp2_with fail
  go_ret
  exact ⟨rfl, rfl⟩

/-- The iterator of a box that holds s. -/
theorem iter_of (n B : Nat) (s : ByteArray) (hs : s.size ≤ 9223372036854775807) (w : World) (hT : TabsU w) (hb : w.cell? ⟨B, 0, none⟩ = some (.string s)) :
    SeqStopsK Fence.wide n Tryz.prog 97 #[.pointer (some ⟨B, 0, none⟩)] enc2 KeepsWalks (fun xs => xs = enumR 0 (rsOf s.data.toList)) (fun pre => pre <+: enumR 0 (rsOf s.data.toList)) (rsOf s.data.toList).length w :=
  runes_stops n B s hs w hb fun w' hB => utf_check s hs w' (hT.keep (Touch.ofBelow hB))

set_option maxHeartbeats 2000000 in
theorem utf_len (s : ByteArray) (hs : s.size ≤ 4611686018427387904) (w : World) (hT : TabsU w) : Calls Tryz.prog 49 #[.string s] w fun e w' => e = .returned (.int .i64 ((rsOf s.data.toList).length : Int)) ∧ Touch (fun _ => False) w w' := by
  have hln : (rsOf s.data.toList).length ≤ s.size := by have := rsOf_len s.data.toList; simpa using this
  refine (callsIn_wide (n := 3)).1 ?_
  refine callsIn_of_wp_marks Tryz.func49 rfl trivial ?_ rfl
  simp only [Tryz.ntmps49, List.size_toArray, List.length_cons, List.length_nil, Nat.reduceAdd, Nat.reduceSub, Array.replicate_succ, Array.replicate_zero, List.push_toArray, List.append_toArray, List.nil_append, List.cons_append]
  gi_wp2_with fail
  refine ⟨trivial, (callsIn_wide.2 (utf_runes s _)).mono ?_⟩
  rintro e w1 ⟨rfl, rfl⟩
  gi_wp2
  have hs0 := (Boxed.new w 3 (.int .i64 0)).alloc (.cells #[.string s] 9)
  have hb := Boxed.new (w.alloc (.cells #[.int .i64 0] 3)) 9 (.string s)
  rw [World.size_alloc] at hb
  have hB0 : Below w.heap.size w ((w.alloc (.cells #[.int .i64 0] 3)).alloc (.cells #[.string s] 9)) := ((Below.refl _ w).alloc (Nat.le_refl _) _).alloc (by simp) _
  refine wpIn_rangeFunc_ownF rfl (by decide) (gf := 97) (lb := #[.pointer (some ⟨w.heap.size + 1, 0, none⟩)]) rfl trivial (enters_of Tryz.func97 (by kernel_rfl) rfl)
    (iter_of _ (w.heap.size + 1) s (by omega) _ (hT.keep (Touch.ofBelow hB0)) hb.cell) walksK_t walksK_b (Below.refl _ _) (fun _ => rfl)
    (fun pre W => Boxed W w.heap.size 3 (.int .i64 (pre.length : Int)) ∧ Below w.heap.size w W)
    (fun _ _ _ => False)
    (OwnFrom.and (Own.from (boxed_own _ _ _) _) (ownFrom_below (Nat.le_refl _) (by simp; omega)))
    (fun _ _ _ _ _ hs _ _ => hs)
    ⟨hs0, hB0⟩
    (fun x => { tmps := #[.string s, undef, .int .i64 0, .pointer (some ⟨w.heap.size, 0, none⟩), .string s, .func (.func 97) #[] #[.pointer (some ⟨w.heap.size + 1, 0, none⟩)], .int .i64 (x.1 : Int), .int .i32 (x.2 : Int), undef, undef, undef], defers := [] }) ?assign ?body ?done ?stop
  case assign =>
    intro l x W K hK
    gi_wp2
    simpa [enc2] using hK
  case body =>
    rintro l pre x W ⟨hX, hB⟩ hlt
    have hlt2 : pre.length < s.size := by omega
    have hc := hX.cell
    have hf := hX.frozen
    have HX : Hid (Boxed W w.heap.size 3 (.int .i64 (pre.length : Int))) := hX
    have HP : Hid ((pre ++ [x]).length = pre.length + 1) := by rw [Hid]; simp
    clear hX
    gi_wp2
    exact ⟨KeepsOthers.setCell _ _ _, walks_of (KeepsOthers.setCell _ _ _), by rw [HP.out]; exact HX.out.set _, hB.setCell (p := ⟨w.heap.size, 0, none⟩) (Nat.le_refl _) _⟩
  case done =>
    rintro D ys W hD rfl ⟨hX, hB⟩ hK
    rw [enumR_len] at hX
    have hc := hX.cell
    gi_wp2
    refine ⟨by simp, .inl ⟨_, _, rfl, run_takeDeferred hK, ?_⟩⟩
    exact ⟨_, results_tmp rfl _ _ _, rfl, Touch.ofBelow (hB.trans (belowK_b (w := w) (Nat.le_refl _) W D _ _ (by simp at hD; omega) hK rfl rfl))⟩
  case stop =>
    rintro D c pre W _ _ h _
    exact h.elim
end Go.Proofs.YtmknkecaeagmbaaGreatDoor

/- The contracts of utf.units16, utf.one, quireref3.wide, utf8.RuneLen. -/
namespace Go.Proofs.YtmknkecaeagmbaaGreatDoor
open Go.RowKit
set_option linter.unusedVariables false

/-- A rune's units of UTF-16. -/
def un16 (r : Nat) : Nat := if 65535 < r then 2 else 1
def sum16 (l : List Nat) : Nat := (l.map un16).sum
theorem un16_bd (r : Nat) : 1 ≤ un16 r ∧ un16 r ≤ 2 := by unfold un16; split <;> omega
theorem sum16_nil : sum16 [] = 0 := rfl
theorem sum16_cons (r : Nat) (l : List Nat) : sum16 (r :: l) = un16 r + sum16 l := by simp [sum16]
theorem sum16_append (a b : List Nat) : sum16 (a ++ b) = sum16 a + sum16 b := by simp [sum16]
theorem sum16_bd (l : List Nat) : l.length ≤ sum16 l ∧ sum16 l ≤ 2 * l.length := by
  induction l with
  | nil => simp [sum16]
  | cons r l ih => have := un16_bd r; rw [sum16_cons, List.length_cons]; omega

theorem runeLen_any (r : Nat) (w : World) : Calls Tryz.prog 71 #[.int .i32 (r : Int)] w fun e w' => e = .returned (.int .i64 (Go.Lib.runeLen (r : Int))) ∧ w' = w := by
  have hc : r ≤ 127 ∨ (127 < r ∧ r ≤ 2047) ∨ (2047 < r ∧ r < 55296) ∨ (55296 ≤ r ∧ r ≤ 57343) ∨ (57343 < r ∧ r ≤ 65535) ∨ (65535 < r ∧ r ≤ 1114111) ∨ 1114111 < r := by omega
  rcases hc with h | ⟨h, h'⟩ | ⟨h, h'⟩ | ⟨h, h'⟩ | ⟨h, h'⟩ | ⟨h, h'⟩ | h
  · have HE : Hid (Go.Lib.runeLen (r : Int) = 1) := by unfold Go.Lib.runeLen; rw [Hid]; repeat' split
                                                       all_goals omega
    generalize Go.Lib.runeLen (r : Int) = X at *
    go_enter Tryz.func71, Tryz.ntmps71
    go_wp2_with fail
    go_ret
    exact ⟨by rw [HE.out]; rfl, rfl⟩
  · have HE : Hid (Go.Lib.runeLen (r : Int) = 2) := by unfold Go.Lib.runeLen; rw [Hid]; repeat' split
                                                       all_goals omega
    generalize Go.Lib.runeLen (r : Int) = X at *
    go_enter Tryz.func71, Tryz.ntmps71
    go_wp2_with fail
    go_ret
    exact ⟨by rw [HE.out]; rfl, rfl⟩
  · have HE : Hid (Go.Lib.runeLen (r : Int) = 3) := by unfold Go.Lib.runeLen; rw [Hid]; repeat' split
                                                       all_goals omega
    generalize Go.Lib.runeLen (r : Int) = X at *
    go_enter Tryz.func71, Tryz.ntmps71
    go_wp2_with fail
    go_ret
    exact ⟨by rw [HE.out]; rfl, rfl⟩
  · have HE : Hid (Go.Lib.runeLen (r : Int) = -1) := by unfold Go.Lib.runeLen; rw [Hid]; repeat' split
                                                        all_goals omega
    generalize Go.Lib.runeLen (r : Int) = X at *
    go_enter Tryz.func71, Tryz.ntmps71
    go_wp2_with fail
    go_ret
    exact ⟨by rw [HE.out]; rfl, rfl⟩
  · have HE : Hid (Go.Lib.runeLen (r : Int) = 3) := by unfold Go.Lib.runeLen; rw [Hid]; repeat' split
                                                       all_goals omega
    generalize Go.Lib.runeLen (r : Int) = X at *
    go_enter Tryz.func71, Tryz.ntmps71
    go_wp2_with fail
    go_ret
    exact ⟨by rw [HE.out]; rfl, rfl⟩
  · have HE : Hid (Go.Lib.runeLen (r : Int) = 4) := by unfold Go.Lib.runeLen; rw [Hid]; repeat' split
                                                       all_goals omega
    generalize Go.Lib.runeLen (r : Int) = X at *
    go_enter Tryz.func71, Tryz.ntmps71
    go_wp2_with fail
    go_ret
    exact ⟨by rw [HE.out]; rfl, rfl⟩
  · have HE : Hid (Go.Lib.runeLen (r : Int) = -1) := by unfold Go.Lib.runeLen; rw [Hid]; repeat' split
                                                        all_goals omega
    generalize Go.Lib.runeLen (r : Int) = X at *
    go_enter Tryz.func71, Tryz.ntmps71
    go_wp2_with fail
    go_ret
    exact ⟨by rw [HE.out]; rfl, rfl⟩
end Go.Proofs.YtmknkecaeagmbaaGreatDoor

/- The contract of utf.Len16. -/
namespace Go.Proofs.YtmknkecaeagmbaaGreatDoor
open Go.RowKit Go.Shelf
set_option linter.unusedVariables false
set_option maxRecDepth 100000
attribute [local go_sem] Oper.semAt_some

def sumP (f : Nat → Nat) (l : List (Nat × Nat)) : Nat := (l.map fun p => f p.2).sum
theorem sumP_snoc (f : Nat → Nat) (l : List (Nat × Nat)) (x : Nat × Nat) : sumP f (l ++ [x]) = sumP f l + f x.2 := by simp [sumP]
theorem sumP_enum (f : Nat → Nat) (k : Nat) (l : List Nat) : sumP f (enumR k l) = (l.map f).sum := by
  induction l generalizing k with
  | nil => rfl
  | cons r l ih => simp only [enumR, sumP, List.map_cons, List.sum_cons]; rw [← ih (k + 1)]; rfl
theorem sumP_le (f : Nat → Nat) (hf : ∀ r, f r ≤ 2) (l : List (Nat × Nat)) : sumP f l ≤ 2 * l.length := by
  induction l with
  | nil => simp [sumP]
  | cons x l ih => have := hf x.2; simp only [sumP, List.map_cons, List.sum_cons, List.length_cons] at ih ⊢; omega

theorem boxed_drew {W : World} {B : Nat} {t : TypeId} {v : Value} (h : Boxed W B t v) : Boxed W.drew B t v := h
/-- A round that adds to a box, and draws its order. -/
theorem box_add {W w : World} {B T U N : Nat} (HX : Boxed W B 3 (.int .i64 (T : Int))) (HP : N = T + U) (h : T + U ≤ 9223372036854775807) (hB : Below w.heap.size w W) (hb : w.heap.size ≤ B) :
    KeepsOthers W (W.setCell ⟨B, 0, none⟩ (.int .i64 (IntKind.i64.wrap ((T : Int) + (U : Int))))).drew ∧ KeepsWalks W (W.setCell ⟨B, 0, none⟩ (.int .i64 (IntKind.i64.wrap ((T : Int) + (U : Int))))).drew ∧
      Boxed (W.setCell ⟨B, 0, none⟩ (.int .i64 (IntKind.i64.wrap ((T : Int) + (U : Int))))).drew B 3 (.int .i64 (N : Int)) ∧ Below w.heap.size w (W.setCell ⟨B, 0, none⟩ (.int .i64 (IntKind.i64.wrap ((T : Int) + (U : Int))))).drew := by
  have hk : KeepsOthers W (W.setCell ⟨B, 0, none⟩ (.int .i64 (IntKind.i64.wrap ((T : Int) + (U : Int))))).drew := (KeepsOthers.setCell _ _ _).trans (KeepsOthers.drew _)
  refine ⟨hk, walks_of hk, ?_, (hB.setCell (p := ⟨B, 0, none⟩) hb _).drew⟩
  rw [IntWalk.i64_in _ (by omega), HP]
  have := HX.set (.int .i64 ((T : Int) + (U : Int)))
  rw [show ((T : Int) + (U : Int)) = ((T + U : Nat) : Int) from by omega] at this ⊢
  exact this

end Go.Proofs.YtmknkecaeagmbaaGreatDoor
