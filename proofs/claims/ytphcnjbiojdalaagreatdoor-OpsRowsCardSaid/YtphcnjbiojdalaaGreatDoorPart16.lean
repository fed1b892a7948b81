/- Bytes as cells; a slice of bytes that the call owns, and that grows. -/
import Derived.Test.YtphcnjbiojdalaaGreatDoorLib
import Derived.Test.YtphcnjbiojdalaaGreatDoorProg
import Derived.WalkLawsBesides
import Derived.Maps.AppendAt
import Derived.Lib.Builder
import Derived.Test.YtphcnjbiojdalaaGreatDoorPart8
import Derived.Shelf.Strings.BuilderK
import Derived.Shelf.SlSortCmp.Whole1
import Derived.Ground.SlsfProg
namespace Go.Proofs.YtphcnjbiojdalaaGreatDoor
open Go.RowKit
set_option linter.unusedVariables false

/-- Bytes as cells. -/
def cellsOf (bs : List UInt8) : List Value := bs.map fun b => Value.int .u8 (b.toNat : Int)

theorem cellsOf_append (a b : List UInt8) : cellsOf (a ++ b) = cellsOf a ++ cellsOf b := by simp [cellsOf]
theorem cellsOf_length (a : List UInt8) : (cellsOf a).length = a.length := by simp [cellsOf]
theorem cellsOf_one (a : List UInt8) : ∀ u ∈ cellsOf a, u.oneCell' = true := by
  intro u hu
  obtain ⟨b, _, rfl⟩ := List.mem_map.1 hu
  rfl

theorem Tryz.infoByte : (Tryz.prog.info? 5).map (fun i => (i.zero, i.size, i.bytes)) = some (some (.int .u8 0), 1, 1) := by kernel_rfl

/-- The value v, which the call owned, has become v', which holds bs; nothing but v's row was touched; the new row is v's, or new. -/
structure Grow (v v' : Value) (bs : List UInt8) (w w' : World) : Prop where
  is : w'.ownsRow 0 5 1 v' bs.length (cellsOf bs)
  touch : Touch (fun k => v.ownBlock = some k) w w'
  new : ∀ k, k < w.heap.size → v'.ownBlock = some k → v.ownBlock = some k
theorem Grow.refl {v : Value} {bs : List UInt8} {w : World} (h : w.ownsRow 0 5 1 v bs.length (cellsOf bs)) : Grow v v bs w w := ⟨h, Touch.refl _ _, fun _ _ h => h⟩
theorem Grow.trans {a b c : Value} {bs cs : List UInt8} {w w1 w2 : World} (h : Grow a b bs w w1) (k : Grow b c cs w1 w2) : Grow a c cs w w2 :=
  ⟨k.is, h.touch.then k.touch (fun i hi e => h.new i hi e), fun i hi e => h.new i hi (k.new i (Nat.lt_of_lt_of_le hi h.touch.size) e)⟩
theorem Grow.slice {v v' : Value} {bs : List UInt8} {w w' : World} (h : Grow v v' bs w w') : ∃ ao n cap, v' = .slice ao n cap := by
  rcases h.is.2 with ⟨e, _⟩ | ⟨g, cap, cur, e, _⟩
  · exact ⟨_, _, _, e⟩
  · exact ⟨_, _, _, e⟩
/-- Behind an append of one byte. -/
theorem Grow.pushed {v v' : Value} {bs : List UInt8} {b : UInt8} {w w1 w2 : World} (hw1 : Touch (fun _ => False) w w1) (hown' : w2.ownsRow 0 5 1 v' (bs.length + 1) (cellsOf bs ++ [.int .u8 (b.toNat : Int)])) (hg : w1.grownBy w2 v.ownBlock) {m : Nat} (hat : v'.ownBlock = v.ownBlock ∨ v'.ownBlock = some m) (hm : w.heap.size ≤ m) : Grow v v' (bs ++ [b]) w w2 := by
  refine ⟨?_, ?_, ?_⟩
  · rw [cellsOf_append, List.length_append]; exact hown'
  · exact (hw1.mono fun _ _ h => h.elim).grown hg (fun i e _ => e)
  · intro k hk hv
    rcases hat with e | e
    · rw [← e]; exact hv
    · rw [hv] at e
      simp at e; omega
end Go.Proofs.YtphcnjbiojdalaaGreatDoor

/- The contracts of strings.Builder's copyCheck and WriteByte at this program. -/
namespace Go.Proofs.YtphcnjbiojdalaaGreatDoor
open Go.RowKit
set_option linter.unusedVariables false
set_option maxRecDepth 100000

theorem infoB : (Tryz.prog.info? 92).map (·.size) = some 2 := by kernel_rfl
theorem noEscape_run (x : Value) (w : World) : (callFunc 110 #[x]).run Tryz.prog w = .ok (.value x) w := by kernel_rfl

/-- A Builder of the call's own, at block b (all its blocks from B on), that holds these bytes. -/
abbrev Bld (B b : Nat) (l : List UInt8) (w : World) : Prop := Go.Lib.IsBuilder 92 5 B b (cellsOf l) w

/-- A Builder's address, seen without its type, and back. -/
theorem ptr_out (b : Nat) (w : World) (j : TypeInfo) (hj : Tryz.prog.info? 92 = some j) (h0 : j.size ≠ 0) (hsh : w.shape? b = some (92, 2)) : (convert 90 123 (.pointer (some ⟨b, 0, none⟩))).run Tryz.prog w = .ok (.pointer (some ⟨b, 0, none⟩)) w := by
  simp [convert, run_underlying Tryz.underlying90, run_underlying Tryz.underlying123, Conv.unsafePointer, Conv.seenAt, viewAt, cellsIn, hsh, sizeOf, typeInfo, hj, h0]
theorem ptr_back (b : Nat) (w : World) (j : TypeInfo) (hj : Tryz.prog.info? 92 = some j) (hsh : w.shape? b = some (92, 2)) : (convert 123 90 (.pointer (some ⟨b, 0, none⟩))).run Tryz.prog w = .ok (.pointer (some ⟨b, 0, none⟩)) w := by
  have hl : liesAt Tryz.prog Tryz.prog.depth 92 (2 / Tryz.prog.cellsOf 92) 0 92 1 = true := by kernel_rfl
  simp [convert, run_underlying Tryz.underlying90, run_underlying Tryz.underlying123, Conv.unsafePointer, Conv.seenAt, viewAt, hsh, variablesAt, hl, sizeOf, typeInfo, hj]

set_option maxHeartbeats 400000 in
theorem b_copyCheck_fresh (b : Nat) (w : World) (c0 : w.cell? ⟨b, 0, none⟩ = some (.pointer none)) (hsh : w.shape? b = some (92, 2)) (z0 : w.frozen? ⟨b, 0, none⟩ = false) :
    Calls Tryz.prog 99 #[.pointer (some ⟨b, 0, none⟩)] w fun e w' => e = .returned (.tuple #[]) ∧ w' = w.setCell ⟨b, 0, none⟩ (.pointer (some ⟨b, 0, none⟩)) := by
  obtain ⟨j, hj, hs⟩ : ∃ j, Tryz.prog.info? 92 = some j ∧ j.size = 2 := by
    have := infoB
    cases h : Tryz.prog.info? 92 with
    | none => rw [h] at this; cases this
    | some j => rw [h] at this; exact ⟨j, rfl, by simpa using this⟩
  have hto : (convert 90 123 (.pointer (some ⟨b, 0, none⟩))).run Tryz.prog w = .ok (.pointer (some ⟨b, 0, none⟩)) w :=
    ptr_out b w j hj (by omega) hsh
  have hfrom : (convert 123 90 (.pointer (some ⟨b, 0, none⟩))).run Tryz.prog w = .ok (.pointer (some ⟨b, 0, none⟩)) w :=
    ptr_back b w j hj hsh
  have hne := noEscape_run
  have hq : ∀ w, (binOp .neq 90 (.pointer (some ⟨b, 0, none⟩)) (.pointer (some ⟨b, 0, none⟩))).run Tryz.prog w = .ok (.bool false) w := fun w => Go.Lib.run_neq_ptr_same w ⟨b, 0, none⟩ Tryz.underlying90 hj
  have c1 := World.cell?_setCell_same w ⟨b, 0, none⟩ (.pointer (some ⟨b, 0, none⟩)) c0
  clear hj hs hsh
  go_enter Tryz.func99, Tryz.ntmps99
  go_wp2_with fail
  go_end0
  exact ⟨rfl, rfl⟩

set_option maxHeartbeats 400000 in
theorem b_copyCheck_used (b : Nat) (w : World) (c0 : w.cell? ⟨b, 0, none⟩ = some (.pointer (some ⟨b, 0, none⟩))) :
    Calls Tryz.prog 99 #[.pointer (some ⟨b, 0, none⟩)] w fun e w' => e = .returned (.tuple #[]) ∧ w' = w := by
  obtain ⟨j, hj, hs⟩ : ∃ j, Tryz.prog.info? 92 = some j ∧ j.size = 2 := by
    have := infoB
    cases h : Tryz.prog.info? 92 with
    | none => rw [h] at this; cases this
    | some j => rw [h] at this; exact ⟨j, rfl, by simpa using this⟩
  have hq : ∀ w, (binOp .neq 90 (.pointer (some ⟨b, 0, none⟩)) (.pointer (some ⟨b, 0, none⟩))).run Tryz.prog w = .ok (.bool false) w := fun w => Go.Lib.run_neq_ptr_same w ⟨b, 0, none⟩ Tryz.underlying90 hj
  clear hj hs
  go_enter Tryz.func99, Tryz.ntmps99
  go_wp2_with fail
  go_end0
  exact ⟨rfl, rfl⟩

theorem b_copyCheck (B b : Nat) (l : List UInt8) (w : World) (h : Bld B b l w) :
    Calls Tryz.prog 99 #[.pointer (some ⟨b, 0, none⟩)] w fun e w' => e = .returned (.tuple #[]) ∧ Go.Lib.BuilderAt 92 5 B b (.pointer (some ⟨b, 0, none⟩)) (cellsOf l) w' ∧ Below B w w' := by
  rcases h with h | h
  · refine (b_copyCheck_fresh b w h.cell0 h.shape h.frozen0).mono ?_
    rintro e w' ⟨rfl, rfl⟩
    exact ⟨rfl, h.used _, (Below.refl B w).setCell (p := ⟨b, 0, none⟩) h.1 _⟩
  · refine (b_copyCheck_used b w h.cell0).mono ?_
    rintro e w' ⟨rfl, rfl⟩
    exact ⟨rfl, h, Below.refl B _⟩

end Go.Proofs.YtphcnjbiojdalaaGreatDoor

/- A strings.Builder that is written, read and emptied, beside other blocks: Reset, WriteString, String. -/
namespace Go.Proofs.YtphcnjbiojdalaaGreatDoor
open Go.RowKit
set_option linter.unusedVariables false
set_option linter.unusedSimpArgs false
set_option maxRecDepth 100000

/-- A Builder at block b (its blocks from B on) that holds these bytes; they may have been read. -/
abbrev BldF (B b : Nat) (l : List UInt8) (w : World) : Prop := Go.Lib.IsBuilderF 92 5 B b (Go.Lib.byteCells l) w
/-- What a call on it leaves as it was. -/
structure BKeep (B b : Nat) (w w' : World) : Prop where
  below : Below B w w'
  others : Go.Lib.OthersKept 5 (some b) w w'
theorem BKeep.trans {B b : Nat} {w w' w'' : World} (h : BKeep B b w w') (k : BKeep B b w' w'') : BKeep B b w w'' := ⟨h.below.trans k.below, h.others.trans k.others⟩
theorem BldF.new (w : World) : BldF w.heap.size w.heap.size [] (w.alloc (.cells #[.pointer none, .slice none 0 0] 92)) :=
  .inl ⟨Nat.le_refl _, .slice none 0 0, heap_alloc_new _ _, World.ownsRowF_of (World.ownsRow_nil _ _ _ _), by simp [Value.ownBlock]⟩
theorem BldF.block {B b : Nat} {l : List UInt8} {w : World} (h : BldF B b l w) : ∃ p v, w.heap[b]? = some (.cells #[p, v] 92 (0, 0)) := by
  rcases h with ⟨_, v, h, _⟩ | ⟨_, v, h, _⟩ <;> exact ⟨_, v, h⟩
theorem BldF.touch {B b : Nat} {l : List UInt8} {w w' : World} (h : BldF B b l w) (t : Touch (fun _ => False) w w') : BldF B b l w' := by
  have hk : ∀ k, k < w.heap.size → w'.heap[k]? = w.heap[k]? := fun k hk => t.block k hk id
  have hg : ∀ p, Go.Lib.BuilderAtF 92 5 B b p (Go.Lib.byteCells l) w → Go.Lib.BuilderAtF 92 5 B b p (Go.Lib.byteCells l) w' := by
    rintro p ⟨hB, v, hb, hown, hne⟩
    refine ⟨hB, v, (hk b (lt_of_heap hb)).trans hb, ⟨hown.1, ?_⟩, hne⟩
    rcases hown.2 with h | ⟨g, cap, cur, fz, rfl, hbg, hgg, r⟩
    · exact .inl h
    · exact .inr ⟨g, cap, cur, fz, rfl, hbg, (hk g (lt_of_heap hgg)).trans hgg, r⟩
  rcases h with h | h
  · exact .inl (hg _ h)
  · exact .inr (hg _ h)
set_option maxHeartbeats 400000 in
theorem b_reset (B b : Nat) (l : List UInt8) (w : World) (h : BldF B b l w) :
    Calls Tryz.prog 78 #[.pointer (some ⟨b, 0, none⟩)] w fun e w' => e = .returned (.tuple #[]) ∧ BldF B b [] w' ∧ BKeep B b w w' := by
  obtain ⟨p, v, hb⟩ := BldF.block h
  have hB : B ≤ b := by rcases h with h | h <;> exact h.1
  clear h
  have c0 : w.cell? ⟨b, 0, none⟩ = some p := by rw [cell_of_block hb]; rfl
  have f0 : w.frozen? ⟨b, 0, none⟩ = false := free_of_block hb
  have hb1 := heap_setCell_same w b 0 (.pointer none) hb
  have c1 : (w.setCell ⟨b, 0, none⟩ (.pointer none)).cell? ⟨b, 1, none⟩ = some v := by rw [cell_of_block hb1]; rfl
  have f1 : (w.setCell ⟨b, 0, none⟩ (.pointer none)).frozen? ⟨b, 1, none⟩ = false := free_of_block hb1
  have hb2 := heap_setCell_same _ b 1 (.slice none 0 0) hb1
  have HQ : Hid (BldF B b [] ((w.setCell ⟨b, 0, none⟩ (.pointer none)).setCell ⟨b, 1, none⟩ (.slice none 0 0)) ∧ BKeep B b w ((w.setCell ⟨b, 0, none⟩ (.pointer none)).setCell ⟨b, 1, none⟩ (.slice none 0 0))) := by
    refine ⟨.inl ⟨hB, .slice none 0 0, ?_, World.ownsRowF_of (World.ownsRow_nil _ _ _ _), by simp [Value.ownBlock]⟩, ⟨?_, ?_⟩⟩
    · rw [hb2]; rfl
    · exact ((Below.refl B w).setCell (p := ⟨b, 0, none⟩) hB _).setCell (p := ⟨b, 1, none⟩) hB _
    · exact ((Go.Lib.OthersKept.refl _ _ w).setCell ⟨b, 0, none⟩ rfl _).setCell ⟨b, 1, none⟩ rfl _
  clear hb hb1 hb2 hB
  go_enter Tryz.func78, Tryz.ntmps78
  go_wp2_with fail
  go_end0
  exact ⟨rfl, HQ.out⟩
theorem b_copyF (B b : Nat) (l : List UInt8) (w : World) (h : BldF B b l w) :
    Calls Tryz.prog 99 #[.pointer (some ⟨b, 0, none⟩)] w fun e w' => e = .returned (.tuple #[]) ∧ Go.Lib.BuilderAtF 92 5 B b (.pointer (some ⟨b, 0, none⟩)) (Go.Lib.byteCells l) w' ∧ BKeep B b w w' := by
  rcases h with h | h
  · refine (b_copyCheck_fresh b w h.cell0 h.shape h.frozen0).mono ?_
    rintro e w' ⟨rfl, rfl⟩
    exact ⟨rfl, h.used _, ⟨(Below.refl B w).setCell (p := ⟨b, 0, none⟩) h.1 _, (Go.Lib.OthersKept.refl _ _ w).setCell ⟨b, 0, none⟩ rfl _⟩⟩
  · refine (b_copyCheck_used b w h.cell0).mono ?_
    rintro e w' ⟨rfl, rfl⟩
    exact ⟨rfl, h, ⟨Below.refl B _, Go.Lib.OthersKept.refl _ _ _⟩⟩
set_option maxHeartbeats 1000000 in
theorem b_writeStr (B b : Nat) (l : List UInt8) (s : ByteArray) (w : World) (h : BldF B b l w) (hlen : l.length + s.size ≤ 140737488355328) (hBw : B ≤ w.heap.size) :
    Calls Tryz.prog 79 #[.pointer (some ⟨b, 0, none⟩), .string s] w fun e w' => e = .returned (.tuple #[.int .i64 s.size, .nilIface]) ∧ BldF B b (l ++ s.data.toList) w' ∧ BKeep B b w w' := by
  have HC : Hid (Calls Tryz.prog 99 #[.pointer (some ⟨b, 0, none⟩)] w fun e w' => e = .returned (.tuple #[]) ∧ Go.Lib.BuilderAtF 92 5 B b (.pointer (some ⟨b, 0, none⟩)) (Go.Lib.byteCells l) w' ∧ BKeep B b w w') := b_copyF B b l w h
  clear h
  obtain ⟨i0, hi, hz0, hz1, hz2⟩ := info_parts Tryz.infoByte
  go_enter Tryz.func79, Tryz.ntmps79
  go_wp2_with fail
  refine HC.out.mono ?_
  rintro e w1 ⟨rfl, ⟨hB, v, hbk, hown, hne⟩, hk1⟩
  have c0 : w1.cell? ⟨b, 0, none⟩ = some (.pointer (some ⟨b, 0, none⟩)) := by rw [cell_of_block hbk]; rfl
  have c1 : w1.cell? ⟨b, 1, none⟩ = some v := by rw [cell_of_block hbk]; rfl
  have hlt : b < w1.heap.size := lt_of_heap hbk
  have hBw1 : B ≤ w1.heap.size := Nat.le_trans hBw hk1.below.size
  have HK1 : Hid (BKeep B b w w1) := hk1
  have HBK : Hid (w1.heap[b]? = some (.cells #[.pointer (some ⟨b, 0, none⟩), v] 92 (0, 0))) := hbk
  rw [Go.Lib.byteCells_length] at hown
  clear hk1 hbk HC
  go_wp2_with (at_builtin; refine Go.Lib.wpList_append_own_stringF _ rfl _ _ 52 9 rfl B 5 i0 Tryz.underlying52 Tryz.underlying9 hi hz0 hz1 hz2 _ _ _ rfl hown s rfl ?c3 ?c4 ?c5 ?_)
  case c3 => unfold maxLen; omega
  case c4 => omega
  case c5 => omega
  intro v' w2 hown' hgrow _
  have hb2 : w2.heap[b]? = some (.cells #[.pointer (some ⟨b, 0, none⟩), v] 92 (0, 0)) := by
    rw [hgrow.block b hlt (fun e => hne e.symm)]
    exact HBK.out
  have d0 : w2.cell? ⟨b, 0, none⟩ = some (.pointer (some ⟨b, 0, none⟩)) := by rw [cell_of_block hb2]; rfl
  have d1 : w2.cell? ⟨b, 1, none⟩ = some v := by rw [cell_of_block hb2]; rfl
  have z1 : w2.frozen? ⟨b, 1, none⟩ = false := free_of_block hb2
  have HQ : Hid (BldF B b (l ++ s.data.toList) (w2.setCell ⟨b, 1, none⟩ v') ∧ BKeep B b w (w2.setCell ⟨b, 1, none⟩ v')) := by
    refine ⟨.inr (Go.Lib.BuilderAtF.put hB hb2 ?_ (by decide)), ⟨?_, ?_⟩⟩
    · rw [Go.Lib.byteCells_append, ← Go.Lib.strCells_eq, List.length_append, Go.Lib.byteCells_length, Go.Lib.strCells_length]
      exact hown'
    · exact (HK1.out.below.grown hgrow (by omega) (fun k hk => (hown.lt k hk).1)).setCell (p := ⟨b, 1, none⟩) hB _
    · exact (HK1.out.others.grown hgrow (Go.Lib.ownsRowF_kind hown)).setCell ⟨b, 1, none⟩ rfl _
  obtain ⟨ao, n', cap', rfl⟩ : ∃ ao n cap, v' = .slice ao n cap := by
    rcases hown'.2 with ⟨e, _⟩ | ⟨g, cap, cur, fz, e, _⟩
    · exact ⟨_, _, _, e⟩
    · exact ⟨_, _, _, e⟩
  clear hown' hgrow hown HK1 HBK hb2 hne
  go_wp2_with fail
  go_ret2
  exact ⟨rfl, HQ.out⟩
theorem b_str (B b : Nat) (l : List UInt8) (w : World) (h : BldF B b l w) (h0 : l ≠ []) :
    Calls Tryz.prog 80 #[.pointer (some ⟨b, 0, none⟩)] w fun e w' => e = .returned (.string ⟨l.toArray⟩) ∧ BldF B b l w' ∧ BKeep B b w w' :=
  (Tryz.Builder_String_k B b l w h h0).mono fun e w' ⟨h1, h2, h3, h4⟩ => ⟨h1, h2, ⟨h3, h4⟩⟩
end Go.Proofs.YtphcnjbiojdalaaGreatDoor

/- The library's slices.SortFunc, laid at this program. -/
namespace Go.Proofs
open Go.Shelf
def Tryz.sortI_ren : Go.Shelf.Ren := ⟨fun | 6 => 81 | 15 => 101 | 14 => 100 | 28 => 119 | 29 => 120 | 20 => 111 | 21 => 112 | 22 => 113 | 23 => 114 | 24 => 115 | 25 => 116 | 26 => 117 | 27 => 118 | 46 => 124 | 47 => 125 | 48 => 126 | 49 => 127 | 50 => 128 | 57 => 129 | n => n, fun | 22 => 98 | 24 => 3 | 25 => 43 | 3 => 3 | 39 => 114 | 0 => 0 | 53 => 134 | 55 => 22 | 4 => 4 | 46 => 127 | 45 => 126 | 50 => 131 | 5 => 5 | 9 => 9 | 66 => 137 | 70 => 141 | 76 => 143 | 77 => 144 | n => n, fun | n => n⟩
theorem Tryz.sortI : Go.Proofs.SlLaysF.n6 Tryz.prog Tryz.sortI_ren := {
  mixed := by kernel_rfl
  f6 := ⟨Tryz.f81.name, by decide, Tryz.func81.trans (congrArg some (by kernel_rfl))⟩
  f14 := ⟨Tryz.f100.name, by decide, Tryz.func100.trans (congrArg some (by kernel_rfl))⟩
  f15 := Tryz.func101.trans (congrArg some (by kernel_rfl))
  f20 := ⟨Tryz.f111.name, by decide, Tryz.func111.trans (congrArg some (by kernel_rfl))⟩
  f21 := ⟨Tryz.f112.name, by decide, Tryz.func112.trans (congrArg some (by kernel_rfl))⟩
  f22 := ⟨Tryz.f113.name, by decide, Tryz.func113.trans (congrArg some (by kernel_rfl))⟩
  f23 := ⟨Tryz.f114.name, by decide, Tryz.func114.trans (congrArg some (by kernel_rfl))⟩
  f24 := ⟨Tryz.f115.name, by decide, Tryz.func115.trans (congrArg some (by kernel_rfl))⟩
  f25 := ⟨Tryz.f116.name, by decide, Tryz.func116.trans (congrArg some (by kernel_rfl))⟩
  f26 := ⟨Tryz.f117.name, by decide, Tryz.func117.trans (congrArg some (by kernel_rfl))⟩
  f27 := ⟨Tryz.f118.name, by decide, Tryz.func118.trans (congrArg some (by kernel_rfl))⟩
  f28 := Tryz.func119.trans (congrArg some (by kernel_rfl))
  f29 := Tryz.func120.trans (congrArg some (by kernel_rfl))
  f46 := ⟨Tryz.f124.name, by decide, Tryz.func124.trans (congrArg some (by kernel_rfl))⟩
  f47 := Tryz.func125.trans (congrArg some (by kernel_rfl))
  f48 := Tryz.func126.trans (congrArg some (by kernel_rfl))
  f49 := ⟨Tryz.f127.name, by decide, Tryz.func127.trans (congrArg some (by kernel_rfl))⟩
  f50 := ⟨Tryz.f128.name, by decide, Tryz.func128.trans (congrArg some (by kernel_rfl))⟩
  f57 := ⟨Tryz.f129.name, by decide, Tryz.func129.trans (congrArg some (by kernel_rfl))⟩
  t0 := Tryz.underlying0
  a0 := Tryz.isAgg0
  z0 := Tryz.sizeOf0
  v0 := Tryz.zeroValue0
  t3 := Tryz.underlying3
  a3 := Tryz.isAgg3
  z3 := Tryz.sizeOf3
  v3 := Tryz.zeroValue3
  t4 := Tryz.underlying4
  a4 := Tryz.isAgg4
  z4 := Tryz.sizeOf4
  v4 := Tryz.zeroValue4
  t5 := Tryz.underlying5
  a5 := Tryz.isAgg5
  z5 := Tryz.sizeOf5
  v5 := Tryz.zeroValue5
  t9 := Tryz.underlying9
  a9 := Tryz.isAgg9
  z9 := Tryz.sizeOf9
  v9 := Tryz.zeroValue9
  t22 := Tryz.underlying98
  a22 := Tryz.isAgg98
  z22 := Tryz.sizeOf98
  v22 := Tryz.zeroValue98
  a24 := Tryz.isAgg3
  z24 := Tryz.sizeOf3
  t25 := Tryz.underlying43
  a25 := Tryz.isAgg43
  z25 := Tryz.sizeOf43
  v25 := Tryz.zeroValue43
  t39 := Tryz.underlying114
  a39 := Tryz.isAgg114
  z39 := Tryz.sizeOf114
  v39 := Tryz.zeroValue114
  t45 := Tryz.underlying126
  a45 := Tryz.isAgg126
  z45 := Tryz.sizeOf126
  v45 := Tryz.zeroValue126
  t46 := Tryz.underlying127
  a46 := Tryz.isAgg127
  z46 := Tryz.sizeOf127
  v46 := Tryz.zeroValue127
  t50 := Tryz.underlying131
  a50 := Tryz.isAgg131
  z50 := Tryz.sizeOf131
  v50 := Tryz.zeroValue131
  t53 := Tryz.underlying134
  a53 := Tryz.isAgg134
  z53 := Tryz.sizeOf134
  v53 := Tryz.zeroValue134
  t55 := Tryz.underlying22
  a55 := Tryz.isAgg22
  z55 := Tryz.sizeOf22
  v55 := Tryz.zeroValue22
  t66 := Tryz.underlying137
  a66 := Tryz.isAgg137
  z66 := Tryz.sizeOf137
  v66 := Tryz.zeroValue137
  t70 := Tryz.underlying141
  a70 := Tryz.isAgg141
  z70 := Tryz.sizeOf141
  v70 := Tryz.zeroValue141
  t76 := Tryz.underlying143
  a76 := Tryz.isAgg143
  z76 := Tryz.sizeOf143
  v76 := Tryz.zeroValue143
  t77 := Tryz.underlying144
  a77 := Tryz.isAgg144
  z77 := Tryz.sizeOf144
  v77 := Tryz.zeroValue144 }
end Go.Proofs
