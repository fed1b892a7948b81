/- The document's disk in memory: its three fields, its list of files. Its small calls. -/
import Derived.Test.YtfmpbkdmcgkeoaaPart2
import Derived.Test.YtfmpbkdmcgkeoaaBClone
namespace Go.Proofs.Ytfmpbkdmcgkeoaa
open Go.RowKit Go.Maps
set_option linter.unusedVariables false

/-- A file of the document's disk: its name, its slice, the block of its bytes, its bytes, how many are synced. -/
structure RFl where
  name : ByteArray
  bo : Option Addr
  cap : Nat
  g : Nat
  bs : List UInt8
  syn : Nat
def RFl.cells (f : RFl) : List Value := [.string f.name, .slice f.bo f.bs.length f.cap, .int .i64 (f.syn : Int)]
def rcells (l : List RFl) : List Value := l.flatMap RFl.cells
def RFl.abs (f : RFl) : Key × File := (f.name.data.toList, (f.bs, f.syn))
structure RFOk (w : World) (r : Nat) (f : RFl) : Prop where
  lies : Lies w f.g f.bo f.bs
  off : f.bs ≠ [] → f.g ≠ r
  none : f.bo = none → f.cap = 0
  le : f.bs.length ≤ f.cap
  cap : f.cap ≤ 9223372036854775807
  syn : f.syn ≤ f.bs.length
  len : f.bs.length ≤ 4194304
  name : f.name.size ≤ 281474976710656
/-- The calls that are left: the document's count against the program's. -/
def leftOf (power : Int) : Int := if power < 0 then -1 else power
/-- Block r is the document's disk, its list v of the files l. -/
structure RCore (w : World) (r : Nat) (v : Value) (l : List RFl) (room power : Int) : Prop where
  cells : w.heap[r]? = some (.cells #[v, .int .i64 room, .int .i64 (leftOf power)] 63 (0, 0))
  owns : w.ownsRow 0 69 3 v l.length (rcells l)
  ne : v.ownBlock ≠ some r
  ok : ∀ f ∈ l, RFOk w r f
  room0 : 0 ≤ room
  room1 : room ≤ 9223372036854775807
  pow0 : -9223372036854775808 ≤ power
  pow1 : power ≤ 9223372036854775807
theorem RFOk.touch {w w' : World} {r : Nat} {f : RFl} (h : RFOk w r f) (t : Touch (fun k => k = r) w w') : RFOk w' r f :=
  ⟨h.lies.keep fun e => t.block f.g (h.lies.lt e) (h.off e), h.off, h.none, h.le, h.cap, h.syn, h.len, h.name⟩
section
variable {w : World} {r : Nat} {v : Value} {l : List RFl} {room power : Int}
abbrev rp (r : Nat) : Value := .pointer (some ⟨r, 0, none⟩)
theorem RCore.c0 (h : RCore w r v l room power) : w.cell? ⟨r, 0, none⟩ = some v := by rw [cell_of_block h.cells]; rfl
theorem RCore.c1 (h : RCore w r v l room power) : w.cell? ⟨r, 1, none⟩ = some (.int .i64 room) := by rw [cell_of_block h.cells]; rfl
theorem RCore.c2 (h : RCore w r v l room power) : w.cell? ⟨r, 2, none⟩ = some (.int .i64 (leftOf power)) := by rw [cell_of_block h.cells]; rfl
theorem RCore.free (h : RCore w r v l room power) (i : Nat) : w.frozen? ⟨r, i, none⟩ = false := free_of_block h.cells

theorem rDead_any (h : RCore w r v l room power) : Calls Try.prog 38 #[rp r] w fun e w' => e = .returned (.bool (decide (power = 0))) ∧ w' = w := by
  have c2 := h.c2
  have e : decide (power = 0) = decide (leftOf power = 0) := by unfold leftOf; split <;> simp <;> omega
  rw [e]
  clear h e
  generalize leftOf power = p at *
  go_enter Try.func38, Try.ntmps38
  go_wp2_with fail
  go_ret
  exact ⟨by first | rfl | (congr 2; rw [Bool.eq_iff_iff]; simp), rfl⟩
theorem rrow_touch {S : Nat → Prop} {w w' : World} {v : Value} {n : Nat} {xs : List Value} (h : w.ownsRow 0 69 3 v n xs) (t : Touch S w w') (hs : ∀ k, v.ownBlock = some k → ¬ S k) : w'.ownsRow 0 69 3 v n xs := by
  refine ⟨h.1, ?_⟩
  rcases h.2 with h | ⟨g, cap, cur, rfl, hb, hg, r⟩
  · exact .inl h
  · exact .inr ⟨g, cap, cur, rfl, hb, (t.block g (lt_of_heap hg) (hs g rfl)).trans hg, r⟩
/-- The fields laid anew. -/
theorem RCore.turn (h : RCore w r v l room power) {w' : World} (t : Touch (fun k => k = r) w w') {room' power' : Int} (hc : w'.heap[r]? = some (.cells #[v, .int .i64 room', .int .i64 (leftOf power')] 63 (0, 0))) (h0 : 0 ≤ room') (h1 : room' ≤ 9223372036854775807) (h2 : -9223372036854775808 ≤ power') (h3 : power' ≤ 9223372036854775807) : RCore w' r v l room' power' :=
  ⟨hc, rrow_touch h.owns t (fun k hk e => h.ne (e ▸ hk)), h.ne, fun f hf => (h.ok f hf).touch t, h0, h1, h2, h3⟩
theorem RCore.touch (h : RCore w r v l room power) {w' : World} (t : Touch (fun _ => False) w w') : RCore w' r v l room power :=
  h.turn (t.mono fun _ _ e => e.elim) ((t.block r (lt_of_heap h.cells) id).trans h.cells) h.room0 h.room1 h.pow0 h.pow1
set_option maxHeartbeats 400000 in
theorem rdone_any (h : RCore w r v l room power) : Calls Try.prog 43 #[rp r] w fun e w' => e = .returned (.int .i64 0) ∧ RCore w' r v l room (spent power) ∧ Touch (fun k => k = r) w w' := by
  have c2 := h.c2
  have f2 := h.free 2
  have p0 := h.pow0
  have p1 := h.pow1
  by_cases e : 0 < power
  · have el : leftOf power = power := by unfold leftOf; rw [if_neg (by omega)]
    have t : Touch (fun k => k = r) w (w.setCell ⟨r, 2, none⟩ (.int .i64 (power - 1))) := (Touch.refl _ w).setCell _ _ fun _ => rfl
    have HQ : Hid (RCore (w.setCell ⟨r, 2, none⟩ (.int .i64 (power - 1))) r v l room (spent power) ∧ Touch (fun k => k = r) w (w.setCell ⟨r, 2, none⟩ (.int .i64 (power - 1)))) := by
      have es : spent power = power - 1 := by unfold spent; rw [if_pos e]
      rw [es]
      refine ⟨h.turn t ?_ h.room0 h.room1 (by omega) (by omega), t⟩
      rw [heap_setCell_same _ _ _ _ h.cells, show leftOf (power - 1) = power - 1 from by unfold leftOf; rw [if_neg (by omega)]]; rfl
    rw [el] at c2
    clear h el t
    go_enter Try.func43, Try.ntmps43
    go_wp2_with fail
    go_ret
    exact ⟨rfl, HQ.out⟩
  · have HQ : Hid (RCore w r v l room (spent power) ∧ Touch (fun k => k = r) w w) := by
      unfold spent; rw [if_neg e]
      exact ⟨h, Touch.refl _ w⟩
    have el : ¬ 0 < leftOf power := by unfold leftOf; split <;> omega
    generalize leftOf power = p at *
    clear h
    go_enter Try.func43, Try.ntmps43
    go_wp2_with fail
    go_ret
    exact ⟨rfl, HQ.out⟩
set_option maxHeartbeats 400000 in
theorem rroom_any (h : RCore w r v l room power) (x : Int) (hx : -9223372036854775808 ≤ x ∧ x ≤ 9223372036854775807) : Calls Try.prog 24 #[rp r, .int .i64 x] w fun e w' => e = .returned (.tuple #[]) ∧ RCore w' r v l (max x 0) power ∧ Touch (fun k => k = r) w w' := by
  have c1 := h.c1
  have f1 := h.free 1
  have HQ : Hid (∀ y, y = max x 0 → RCore (w.setCell ⟨r, 1, none⟩ (.int .i64 y)) r v l (max x 0) power ∧ Touch (fun k => k = r) w (w.setCell ⟨r, 1, none⟩ (.int .i64 y))) := by
    rintro y rfl
    have t : Touch (fun k => k = r) w (w.setCell ⟨r, 1, none⟩ (.int .i64 (max x 0))) := (Touch.refl _ w).setCell _ _ fun _ => rfl
    refine ⟨h.turn t ?_ (by omega) (by omega) h.pow0 h.pow1, t⟩
    rw [heap_setCell_same _ _ _ _ h.cells]; rfl
  clear h
  by_cases e : 0 ≤ x
  · have HZ := HQ.out x (by omega)
    have HY : Hid (RCore (w.setCell ⟨r, 1, none⟩ (.int .i64 x)) r v l (max x 0) power ∧ Touch (fun k => k = r) w (w.setCell ⟨r, 1, none⟩ (.int .i64 x))) := HZ
    clear HZ HQ
    go_enter Try.func24, Try.ntmps24
    go_wp2_with fail
    go_end0
    exact ⟨rfl, HY.out⟩
  · have HZ := HQ.out 0 (by omega)
    have HY : Hid (RCore (w.setCell ⟨r, 1, none⟩ (.int .i64 0)) r v l (max x 0) power ∧ Touch (fun k => k = r) w (w.setCell ⟨r, 1, none⟩ (.int .i64 0))) := HZ
    clear HZ HQ
    go_enter Try.func24, Try.ntmps24
    go_wp2_with fail
    go_end0
    exact ⟨rfl, HY.out⟩
set_option maxHeartbeats 400000 in
theorem named_any (s : ByteArray) (w : World) (hs : s.size ≤ maxLen) :
    Calls Try.prog 39 #[.string s] w fun e w' => e = .returned (.bool (isNm s.data.toList)) ∧ w' = w := by
  have hz : s.data.toList.length = s.size := by rw [Array.length_toList]; rfl
  unfold maxLen at hs
  unfold isNm
  rw [hz]
  by_cases h1 : 1 ≤ s.size
  · by_cases h2 : s.size ≤ 32
    · rw [decide_eq_true ⟨h1, h2⟩]
      clear hz
      go_enter Try.func39, Try.ntmps39
      go_wp2_with fail
      go_ret
      exact ⟨by simp; omega, rfl⟩
    · rw [decide_eq_false (fun h => h2 h.2)]
      clear hz
      go_enter Try.func39, Try.ntmps39
      go_wp2_with fail
      go_ret
      exact ⟨by simp; omega, rfl⟩
  · rw [decide_eq_false (fun h => h1 h.1)]
    clear hz
    go_enter Try.func39, Try.ntmps39
    go_wp2_with fail
    go_ret
    exact ⟨rfl, rfl⟩
end
end Go.Proofs.Ytfmpbkdmcgkeoaa
