/- Bytes as cells; a slice of bytes that the call owns, and that grows. -/
import Derived.Test.YtijkekkjiboomaaGreatDoorPart1
import Derived.Test.YtijkekkjiboomaaGreatDoorProg
import Derived.WalkLawsBesides
import Derived.Maps.AppendAt
import Derived.Lib.Builder
import Derived.Shelf.Strings.BuilderK
namespace Go.Proofs.YtijkekkjiboomaaGreatDoor
open Go.RowKit
set_option linter.unusedVariables false

/-- Bytes as cells. -/
def cellsOf (bs : List UInt8) : List Value := bs.map fun b => Value.int .u8 (b.toNat : Int)

theorem cellsOf_append (a b : List UInt8) : cellsOf (a ++ b) = cellsOf a ++ cellsOf b := by simp [cellsOf]
theorem cellsOf_length (a : List UInt8) : (cellsOf a).length = a.length := by simp [cellsOf]
theorem cellsOf_one (a : List UInt8) : ∀ u ∈ cellsOf a, u.oneCell' = true := by
  intro u hu
  obtain ⟨b, _, rfl⟩ := List.mem_map.1 hu
  rfl

theorem Tryz.infoByte : (Tryz.prog.info? 5).map (fun i => (i.zero, i.size, i.bytes)) = some (some (.int .u8 0), 1, 1) := by kernel_rfl

/-- The value v, which the call owned, has become v', which holds bs; nothing but v's row was touched; the new row is v's, or new. -/
structure Grow (v v' : Value) (bs : List UInt8) (w w' : World) : Prop where
  is : w'.ownsRow 0 5 1 v' bs.length (cellsOf bs)
  touch : Touch (fun k => v.ownBlock = some k) w w'
  new : ∀ k, k < w.heap.size → v'.ownBlock = some k → v.ownBlock = some k
theorem Grow.refl {v : Value} {bs : List UInt8} {w : World} (h : w.ownsRow 0 5 1 v bs.length (cellsOf bs)) : Grow v v bs w w := ⟨h, Touch.refl _ _, fun _ _ h => h⟩
theorem Grow.trans {a b c : Value} {bs cs : List UInt8} {w w1 w2 : World} (h : Grow a b bs w w1) (k : Grow b c cs w1 w2) : Grow a c cs w w2 :=
  ⟨k.is, h.touch.then k.touch (fun i hi e => h.new i hi e), fun i hi e => h.new i hi (k.new i (Nat.lt_of_lt_of_le hi h.touch.size) e)⟩
theorem Grow.slice {v v' : Value} {bs : List UInt8} {w w' : World} (h : Grow v v' bs w w') : ∃ ao n cap, v' = .slice ao n cap := by
  rcases h.is.2 with ⟨e, _⟩ | ⟨g, cap, cur, e, _⟩
  · exact ⟨_, _, _, e⟩
  · exact ⟨_, _, _, e⟩
/-- Behind an append of one byte. -/
theorem Grow.pushed {v v' : Value} {bs : List UInt8} {b : UInt8} {w w1 w2 : World} (hw1 : Touch (fun _ => False) w w1) (hown' : w2.ownsRow 0 5 1 v' (bs.length + 1) (cellsOf bs ++ [.int .u8 (b.toNat : Int)])) (hg : w1.grownBy w2 v.ownBlock) {m : Nat} (hat : v'.ownBlock = v.ownBlock ∨ v'.ownBlock = some m) (hm : w.heap.size ≤ m) : Grow v v' (bs ++ [b]) w w2 := by
  refine ⟨?_, ?_, ?_⟩
  · rw [cellsOf_append, List.length_append]; exact hown'
  · exact (hw1.mono fun _ _ h => h.elim).grown hg (fun i e _ => e)
  · intro k hk hv
    rcases hat with e | e
    · rw [← e]; exact hv
    · rw [hv] at e
      simp at e; omega
end Go.Proofs.YtijkekkjiboomaaGreatDoor

/- The contracts of strings.Builder's copyCheck and WriteByte at this program. -/
namespace Go.Proofs.YtijkekkjiboomaaGreatDoor
open Go.RowKit
set_option linter.unusedVariables false
set_option maxRecDepth 100000

theorem infoB : (Tryz.prog.info? 60).map (·.size) = some 2 := by kernel_rfl
theorem noEscape_run (x : Value) (w : World) : (callFunc 84 #[x]).run Tryz.prog w = .ok (.value x) w := by kernel_rfl

/-- A Builder of the call's own, at block b (all its blocks from B on), that holds these bytes. -/
abbrev Bld (B b : Nat) (l : List UInt8) (w : World) : Prop := Go.Lib.IsBuilder 60 5 B b (cellsOf l) w

/-- A Builder's address, seen without its type, and back. -/
theorem ptr_out (b : Nat) (w : World) (j : TypeInfo) (hj : Tryz.prog.info? 60 = some j) (h0 : j.size ≠ 0) (hsh : w.shape? b = some (60, 2)) : (convert 57 111 (.pointer (some ⟨b, 0, none⟩))).run Tryz.prog w = .ok (.pointer (some ⟨b, 0, none⟩)) w := by
  simp [convert, run_underlying Tryz.underlying57, run_underlying Tryz.underlying111, Conv.unsafePointer, Conv.seenAt, viewAt, cellsIn, hsh, sizeOf, typeInfo, hj, h0]
theorem ptr_back (b : Nat) (w : World) (j : TypeInfo) (hj : Tryz.prog.info? 60 = some j) (hsh : w.shape? b = some (60, 2)) : (convert 111 57 (.pointer (some ⟨b, 0, none⟩))).run Tryz.prog w = .ok (.pointer (some ⟨b, 0, none⟩)) w := by
  have hl : liesAt Tryz.prog Tryz.prog.depth 60 (2 / Tryz.prog.cellsOf 60) 0 60 1 = true := by kernel_rfl
  simp [convert, run_underlying Tryz.underlying57, run_underlying Tryz.underlying111, Conv.unsafePointer, Conv.seenAt, viewAt, hsh, variablesAt, hl, sizeOf, typeInfo, hj]

set_option maxHeartbeats 400000 in
theorem b_copyCheck_fresh (b : Nat) (w : World) (c0 : w.cell? ⟨b, 0, none⟩ = some (.pointer none)) (hsh : w.shape? b = some (60, 2)) (z0 : w.frozen? ⟨b, 0, none⟩ = false) :
    Calls Tryz.prog 61 #[.pointer (some ⟨b, 0, none⟩)] w fun e w' => e = .returned (.tuple #[]) ∧ w' = w.setCell ⟨b, 0, none⟩ (.pointer (some ⟨b, 0, none⟩)) := by
  obtain ⟨j, hj, hs⟩ : ∃ j, Tryz.prog.info? 60 = some j ∧ j.size = 2 := by
    have := infoB
    cases h : Tryz.prog.info? 60 with
    | none => rw [h] at this; cases this
    | some j => rw [h] at this; exact ⟨j, rfl, by simpa using this⟩
  have hto : (convert 57 111 (.pointer (some ⟨b, 0, none⟩))).run Tryz.prog w = .ok (.pointer (some ⟨b, 0, none⟩)) w :=
    ptr_out b w j hj (by omega) hsh
  have hfrom : (convert 111 57 (.pointer (some ⟨b, 0, none⟩))).run Tryz.prog w = .ok (.pointer (some ⟨b, 0, none⟩)) w :=
    ptr_back b w j hj hsh
  have hne := noEscape_run
  have hq : ∀ w, (binOp .neq 57 (.pointer (some ⟨b, 0, none⟩)) (.pointer (some ⟨b, 0, none⟩))).run Tryz.prog w = .ok (.bool false) w := fun w => Go.Lib.run_neq_ptr_same w ⟨b, 0, none⟩ Tryz.underlying57 hj
  have c1 := World.cell?_setCell_same w ⟨b, 0, none⟩ (.pointer (some ⟨b, 0, none⟩)) c0
  clear hj hs hsh
  go_enter Tryz.func61, Tryz.ntmps61
  go_wp2_with fail
  go_end0
  exact ⟨rfl, rfl⟩

set_option maxHeartbeats 400000 in
theorem b_copyCheck_used (b : Nat) (w : World) (c0 : w.cell? ⟨b, 0, none⟩ = some (.pointer (some ⟨b, 0, none⟩))) :
    Calls Tryz.prog 61 #[.pointer (some ⟨b, 0, none⟩)] w fun e w' => e = .returned (.tuple #[]) ∧ w' = w := by
  obtain ⟨j, hj, hs⟩ : ∃ j, Tryz.prog.info? 60 = some j ∧ j.size = 2 := by
    have := infoB
    cases h : Tryz.prog.info? 60 with
    | none => rw [h] at this; cases this
    | some j => rw [h] at this; exact ⟨j, rfl, by simpa using this⟩
  have hq : ∀ w, (binOp .neq 57 (.pointer (some ⟨b, 0, none⟩)) (.pointer (some ⟨b, 0, none⟩))).run Tryz.prog w = .ok (.bool false) w := fun w => Go.Lib.run_neq_ptr_same w ⟨b, 0, none⟩ Tryz.underlying57 hj
  clear hj hs
  go_enter Tryz.func61, Tryz.ntmps61
  go_wp2_with fail
  go_end0
  exact ⟨rfl, rfl⟩

theorem b_copyCheck (B b : Nat) (l : List UInt8) (w : World) (h : Bld B b l w) :
    Calls Tryz.prog 61 #[.pointer (some ⟨b, 0, none⟩)] w fun e w' => e = .returned (.tuple #[]) ∧ Go.Lib.BuilderAt 60 5 B b (.pointer (some ⟨b, 0, none⟩)) (cellsOf l) w' ∧ Below B w w' := by
  rcases h with h | h
  · refine (b_copyCheck_fresh b w h.cell0 h.shape h.frozen0).mono ?_
    rintro e w' ⟨rfl, rfl⟩
    exact ⟨rfl, h.used _, (Below.refl B w).setCell (p := ⟨b, 0, none⟩) h.1 _⟩
  · refine (b_copyCheck_used b w h.cell0).mono ?_
    rintro e w' ⟨rfl, rfl⟩
    exact ⟨rfl, h, Below.refl B _⟩

set_option maxHeartbeats 400000 in
theorem b_writeByte (B b : Nat) (l : List UInt8) (c : UInt8) (x : Int) (hx : x = c.toNat) (w : World) (h : Bld B b l w) (hlen : l.length + 1 ≤ 140737488355328) (hBw : B ≤ w.heap.size) :
    Calls Tryz.prog 57 #[.pointer (some ⟨b, 0, none⟩), .int .u8 x] w fun e w' => e = .returned .nilIface ∧ Bld B b (l ++ [c]) w' ∧ Below B w w' := by
  subst hx
  have HC : Hid (Calls Tryz.prog 61 #[.pointer (some ⟨b, 0, none⟩)] w fun e w' => e = .returned (.tuple #[]) ∧ Go.Lib.BuilderAt 60 5 B b (.pointer (some ⟨b, 0, none⟩)) (cellsOf l) w' ∧ Below B w w') := b_copyCheck B b l w h
  clear h
  obtain ⟨i0, hi, hz0, hz1, hz2⟩ := info_parts Tryz.infoByte
  go_enter Tryz.func57, Tryz.ntmps57
  go_wp2_with fail
  refine HC.out.mono ?_
  rintro e w1 ⟨rfl, ⟨hB, v, hbk, hown, hne⟩, hb1⟩
  have c0 : w1.cell? ⟨b, 0, none⟩ = some (.pointer (some ⟨b, 0, none⟩)) := by rw [cell_of_block hbk]; rfl
  have c1 : w1.cell? ⟨b, 1, none⟩ = some v := by rw [cell_of_block hbk]; rfl
  have hlt : b < w1.heap.size := lt_of_heap hbk
  have HB1 : Hid (Below B w w1) := hb1
  have HBK : Hid (w1.heap[b]? = some (.cells #[.pointer (some ⟨b, 0, none⟩), v] 60 (0, 0))) := hbk
  have hBw1 : B ≤ w1.heap.size := Nat.le_trans hBw hb1.size
  rw [cellsOf_length] at hown
  clear hb1 hbk
  go_wp2_with (first | (at_builtin; refine wpList_append_own _ rfl _ _ 58 rfl B 5 i0 (.int .u8 0) 1 1 Tryz.underlying58 hi hz0 hz1 hz2 rfl (by decide) _ _ _ rfl (hown.alloc _) ⟨w1.heap.size, 0, none⟩ 1 1 [.int .u8 (c.toNat : Int)] rfl rfl ?c1 ?c2 ?c3 ?c4 ?c5 ?_))
  case c1 =>
    intro j u hj
    match j, hj with
    | 0, hj => simp at hj; subst hj; simp [Addr.add]
  case c2 => intro u hu; simp at hu; subst hu; rfl
  case c3 => unfold maxLen; omega
  case c4 => omega
  case c5 => simp; omega
  intro v' w2 hown' hgrow _
  have hb2 : w2.heap[b]? = some (.cells #[.pointer (some ⟨b, 0, none⟩), v] 60 (0, 0)) := by
    rw [hgrow.block b (by simp; omega) (fun e => hne e.symm), Below.heap_alloc _ _ _ hlt]
    exact HBK.out
  have d0 : w2.cell? ⟨b, 0, none⟩ = some (.pointer (some ⟨b, 0, none⟩)) := by rw [cell_of_block hb2]; rfl
  have d1 : w2.cell? ⟨b, 1, none⟩ = some v := by rw [cell_of_block hb2]; rfl
  have z1 : w2.frozen? ⟨b, 1, none⟩ = false := free_of_block hb2
  have hne' : v'.ownBlock ≠ some b := by
    intro e
    rcases hown'.2 with ⟨rfl, _⟩ | ⟨g, cap, cur, rfl, _, hg, _⟩
    · simp [Value.ownBlock] at e
    · simp only [Value.ownBlock, Option.some.injEq] at e
      subst e
      rw [hg] at hb2
      simp at hb2
  have HQ : Hid (Bld B b (l ++ [c]) (w2.setCell ⟨b, 1, none⟩ v') ∧ Below B w (w2.setCell ⟨b, 1, none⟩ v')) := by
    refine ⟨.inr ⟨hB, v', ?_, ?_, hne'⟩, ?_⟩
    · rw [heap_setCell_same _ _ _ _ hb2]; rfl
    · have h1 : (cellsOf (l ++ [c])).length = l.length + 1 := by rw [cellsOf_length, List.length_append]; rfl
      rw [h1, cellsOf_append]
      refine hown'.kept (row := some b) ⟨rfl, rfl, rfl, by simp [World.setCell], fun k _ hk => Below.heap_setCell _ _ _ _ (fun e => hk (by simp [e]))⟩ ?_
      exact Or.inr hne'
    · refine Below.setCell ?_ (p := ⟨b, 1, none⟩) hB _
      have hb := hgrow
      refine ⟨hb.os.trans HB1.out.os, hb.tape.trans HB1.out.tape, hb.output.trans HB1.out.output, Nat.le_trans HB1.out.size (Nat.le_trans (by simp) hb.size), fun k hk => ?_⟩
      have hkw : k < w1.heap.size := by omega
      rw [hb.block k (by simp; omega) ?_, Below.heap_alloc _ _ _ hkw]
      · exact HB1.out.block k hk
      · intro e
        rcases hown.2 with ⟨rfl, _⟩ | ⟨g, cap, cur, rfl, hgB, _⟩
        · simp [Value.ownBlock] at e
        · simp only [Value.ownBlock, Option.some.injEq] at e
          omega
  obtain ⟨ao, n', cap', rfl⟩ : ∃ ao n cap, v' = .slice ao n cap := by
    rcases hown'.2 with ⟨e, _⟩ | ⟨g, cap, cur, e, _⟩
    · exact ⟨_, _, _, e⟩
    · exact ⟨_, _, _, e⟩
  clear hown' hgrow hown HB1 HBK hb2 hne hne'
  go_wp2_with fail
  go_ret
  exact ⟨rfl, HQ.out⟩
end Go.Proofs.YtijkekkjiboomaaGreatDoor

/- The library's contracts that value's functions call, laid at this program. -/
namespace Go.Proofs
open Go.Shelf
def Tryz.lays169_ren : Go.Shelf.Ren := ⟨fun | 169 => 37 | n => n, fun | 70 => 57 | 9 => 9 | 0 => 0 | 72 => 60 | 37 => 58 | 127 => 88 | 3 => 3 | 5 => 5 | n => n, fun | n => n⟩
theorem Tryz.lays169 : Go.Proofs.Lays.n169 Tryz.prog Tryz.lays169_ren := {
  mixed := by kernel_rfl
  f169 := Tryz.func37.trans (congrArg some (by kernel_rfl))
  t0 := Tryz.underlying0
  a0 := Tryz.isAgg0
  z0 := Tryz.sizeOf0
  v0 := Tryz.zeroValue0
  t3 := Tryz.underlying3
  a3 := Tryz.isAgg3
  z3 := Tryz.sizeOf3
  v3 := Tryz.zeroValue3
  t9 := Tryz.underlying9
  a9 := Tryz.isAgg9
  z9 := Tryz.sizeOf9
  v9 := Tryz.zeroValue9
  t37 := Tryz.underlying58
  a37 := Tryz.isAgg58
  z37 := Tryz.sizeOf58
  v37 := Tryz.zeroValue58
  t70 := Tryz.underlying57
  a70 := Tryz.isAgg57
  z70 := Tryz.sizeOf57
  v70 := Tryz.zeroValue57
  t72 := Tryz.underlying60
  a72 := Tryz.isAgg60
  z72 := Tryz.sizeOf60
  v72 := Tryz.zeroValue60
  t127 := Tryz.underlying88
  a127 := Tryz.isAgg88
  z127 := Tryz.sizeOf88
  v127 := Tryz.zeroValue88 }
theorem Tryz.Builder_Extra_169 : Builder.Extra Tryz.prog Tryz.lays169_ren := {
  sizeBuilder := by kernel_rfl
  liesBuilder := by kernel_rfl
  t5 := Tryz.underlying5
  a5 := Tryz.isAgg5
  z5 := Tryz.sizeOf5
  v5 := Tryz.zeroValue5
  infoByte := by kernel_rfl
  cellsByte := by kernel_rfl
  sizeByte := by kernel_rfl
  neB5 := by decide }
open Go.RowKit in
theorem Tryz.Builder_String_any (B b : Nat) (l : List UInt8) (w : World) (h : Lib.IsBuilder 60 5 B b (Lib.byteCells l) w) (hBw : B ≤ w.heap.size) :
    Calls Tryz.prog 37 #[.pointer (some ⟨b, 0, none⟩)] w fun e w' => e = .returned (.string ⟨l.toArray⟩) ∧ Below B w w' := Any.Builder_String_any Tryz.lays169 Tryz.Builder_Extra_169 B b l w h hBw
open Go.RowKit in
theorem Tryz.Builder_String_k (B b : Nat) (l : List UInt8) (w : World) (h : Lib.IsBuilderF 60 5 B b (Lib.byteCells l) w) (h0 : l ≠ []) :
    Calls Tryz.prog 37 #[.pointer (some ⟨b, 0, none⟩)] w fun e w' => e = .returned (.string ⟨l.toArray⟩) ∧ (Lib.IsBuilderF 60 5 B b (Lib.byteCells l) w' ∧ Below B w w' ∧ Lib.OthersKept 5 (some b) w w') := Any.Builder_String_k Tryz.lays169 Tryz.Builder_Extra_169 B b l w h h0
open Go.RowKit in
theorem Tryz.Builder_String_any_k (B b : Nat) (l : List UInt8) (w : World) (h : Lib.IsBuilderF 60 5 B b (Lib.byteCells l) w) (hBw : B ≤ w.heap.size) :
    Calls Tryz.prog 37 #[.pointer (some ⟨b, 0, none⟩)] w fun e w' => e = .returned (.string ⟨l.toArray⟩) ∧ (Lib.IsBuilderF 60 5 B b (Lib.byteCells l) w' ∧ Below B w w' ∧ Lib.OthersKept 5 (some b) w w') := Any.Builder_String_any_k Tryz.lays169 Tryz.Builder_Extra_169 B b l w h hBw
end Go.Proofs

/- The contracts of a Builder that is read and written, by Shelf. -/


/- A strings.Builder that is written, read and emptied, beside other blocks: Reset, WriteString, String. -/
namespace Go.Proofs.YtijkekkjiboomaaGreatDoor
open Go.RowKit
set_option linter.unusedVariables false
set_option linter.unusedSimpArgs false
set_option maxRecDepth 100000

/-- A Builder at block b (its blocks from B on) that holds these bytes; they may have been read. -/
abbrev BldF (B b : Nat) (l : List UInt8) (w : World) : Prop := Go.Lib.IsBuilderF 60 5 B b (Go.Lib.byteCells l) w
/-- What a call on it leaves as it was. -/
structure BKeep (B b : Nat) (w w' : World) : Prop where
  below : Below B w w'
  others : Go.Lib.OthersKept 5 (some b) w w'
theorem BKeep.trans {B b : Nat} {w w' w'' : World} (h : BKeep B b w w') (k : BKeep B b w' w'') : BKeep B b w w'' := ⟨h.below.trans k.below, h.others.trans k.others⟩
theorem BldF.new (w : World) : BldF w.heap.size w.heap.size [] (w.alloc (.cells #[.pointer none, .slice none 0 0] 60)) :=
  .inl ⟨Nat.le_refl _, .slice none 0 0, heap_alloc_new _ _, World.ownsRowF_of (World.ownsRow_nil _ _ _ _), by simp [Value.ownBlock]⟩
theorem BldF.block {B b : Nat} {l : List UInt8} {w : World} (h : BldF B b l w) : ∃ p v, w.heap[b]? = some (.cells #[p, v] 60 (0, 0)) := by
  rcases h with ⟨_, v, h, _⟩ | ⟨_, v, h, _⟩ <;> exact ⟨_, v, h⟩
theorem BldF.touch {B b : Nat} {l : List UInt8} {w w' : World} (h : BldF B b l w) (t : Touch (fun _ => False) w w') : BldF B b l w' := by
  have hk : ∀ k, k < w.heap.size → w'.heap[k]? = w.heap[k]? := fun k hk => t.block k hk id
  have hg : ∀ p, Go.Lib.BuilderAtF 60 5 B b p (Go.Lib.byteCells l) w → Go.Lib.BuilderAtF 60 5 B b p (Go.Lib.byteCells l) w' := by
    rintro p ⟨hB, v, hb, hown, hne⟩
    refine ⟨hB, v, (hk b (lt_of_heap hb)).trans hb, ⟨hown.1, ?_⟩, hne⟩
    rcases hown.2 with h | ⟨g, cap, cur, fz, rfl, hbg, hgg, r⟩
    · exact .inl h
    · exact .inr ⟨g, cap, cur, fz, rfl, hbg, (hk g (lt_of_heap hgg)).trans hgg, r⟩
  rcases h with h | h
  · exact .inl (hg _ h)
  · exact .inr (hg _ h)
set_option maxHeartbeats 400000 in
theorem b_reset (B b : Nat) (l : List UInt8) (w : World) (h : BldF B b l w) :
    Calls Tryz.prog 46 #[.pointer (some ⟨b, 0, none⟩)] w fun e w' => e = .returned (.tuple #[]) ∧ BldF B b [] w' ∧ BKeep B b w w' := by
  obtain ⟨p, v, hb⟩ := BldF.block h
  have hB : B ≤ b := by rcases h with h | h <;> exact h.1
  clear h
  have c0 : w.cell? ⟨b, 0, none⟩ = some p := by rw [cell_of_block hb]; rfl
  have f0 : w.frozen? ⟨b, 0, none⟩ = false := free_of_block hb
  have hb1 := heap_setCell_same w b 0 (.pointer none) hb
  have c1 : (w.setCell ⟨b, 0, none⟩ (.pointer none)).cell? ⟨b, 1, none⟩ = some v := by rw [cell_of_block hb1]; rfl
  have f1 : (w.setCell ⟨b, 0, none⟩ (.pointer none)).frozen? ⟨b, 1, none⟩ = false := free_of_block hb1
  have hb2 := heap_setCell_same _ b 1 (.slice none 0 0) hb1
  have HQ : Hid (BldF B b [] ((w.setCell ⟨b, 0, none⟩ (.pointer none)).setCell ⟨b, 1, none⟩ (.slice none 0 0)) ∧ BKeep B b w ((w.setCell ⟨b, 0, none⟩ (.pointer none)).setCell ⟨b, 1, none⟩ (.slice none 0 0))) := by
    refine ⟨.inl ⟨hB, .slice none 0 0, ?_, World.ownsRowF_of (World.ownsRow_nil _ _ _ _), by simp [Value.ownBlock]⟩, ⟨?_, ?_⟩⟩
    · rw [hb2]; rfl
    · exact ((Below.refl B w).setCell (p := ⟨b, 0, none⟩) hB _).setCell (p := ⟨b, 1, none⟩) hB _
    · exact ((Go.Lib.OthersKept.refl _ _ w).setCell ⟨b, 0, none⟩ rfl _).setCell ⟨b, 1, none⟩ rfl _
  clear hb hb1 hb2 hB
  go_enter Tryz.func46, Tryz.ntmps46
  go_wp2_with fail
  go_end0
  exact ⟨rfl, HQ.out⟩
theorem b_copyF (B b : Nat) (l : List UInt8) (w : World) (h : BldF B b l w) :
    Calls Tryz.prog 61 #[.pointer (some ⟨b, 0, none⟩)] w fun e w' => e = .returned (.tuple #[]) ∧ Go.Lib.BuilderAtF 60 5 B b (.pointer (some ⟨b, 0, none⟩)) (Go.Lib.byteCells l) w' ∧ BKeep B b w w' := by
  rcases h with h | h
  · refine (b_copyCheck_fresh b w h.cell0 h.shape h.frozen0).mono ?_
    rintro e w' ⟨rfl, rfl⟩
    exact ⟨rfl, h.used _, ⟨(Below.refl B w).setCell (p := ⟨b, 0, none⟩) h.1 _, (Go.Lib.OthersKept.refl _ _ w).setCell ⟨b, 0, none⟩ rfl _⟩⟩
  · refine (b_copyCheck_used b w h.cell0).mono ?_
    rintro e w' ⟨rfl, rfl⟩
    exact ⟨rfl, h, ⟨Below.refl B _, Go.Lib.OthersKept.refl _ _ _⟩⟩
set_option maxHeartbeats 1000000 in
theorem b_writeStr (B b : Nat) (l : List UInt8) (s : ByteArray) (w : World) (h : BldF B b l w) (hlen : l.length + s.size ≤ 140737488355328) (hBw : B ≤ w.heap.size) :
    Calls Tryz.prog 40 #[.pointer (some ⟨b, 0, none⟩), .string s] w fun e w' => e = .returned (.tuple #[.int .i64 s.size, .nilIface]) ∧ BldF B b (l ++ s.data.toList) w' ∧ BKeep B b w w' := by
  have HC : Hid (Calls Tryz.prog 61 #[.pointer (some ⟨b, 0, none⟩)] w fun e w' => e = .returned (.tuple #[]) ∧ Go.Lib.BuilderAtF 60 5 B b (.pointer (some ⟨b, 0, none⟩)) (Go.Lib.byteCells l) w' ∧ BKeep B b w w') := b_copyF B b l w h
  clear h
  obtain ⟨i0, hi, hz0, hz1, hz2⟩ := info_parts Tryz.infoByte
  go_enter Tryz.func40, Tryz.ntmps40
  go_wp2_with fail
  refine HC.out.mono ?_
  rintro e w1 ⟨rfl, ⟨hB, v, hbk, hown, hne⟩, hk1⟩
  have c0 : w1.cell? ⟨b, 0, none⟩ = some (.pointer (some ⟨b, 0, none⟩)) := by rw [cell_of_block hbk]; rfl
  have c1 : w1.cell? ⟨b, 1, none⟩ = some v := by rw [cell_of_block hbk]; rfl
  have hlt : b < w1.heap.size := lt_of_heap hbk
  have hBw1 : B ≤ w1.heap.size := Nat.le_trans hBw hk1.below.size
  have HK1 : Hid (BKeep B b w w1) := hk1
  have HBK : Hid (w1.heap[b]? = some (.cells #[.pointer (some ⟨b, 0, none⟩), v] 60 (0, 0))) := hbk
  rw [Go.Lib.byteCells_length] at hown
  clear hk1 hbk HC
  go_wp2_with (at_builtin; refine Go.Lib.wpList_append_own_stringF _ rfl _ _ 58 9 rfl B 5 i0 Tryz.underlying58 Tryz.underlying9 hi hz0 hz1 hz2 _ _ _ rfl hown s rfl ?c3 ?c4 ?c5 ?_)
  case c3 => unfold maxLen; omega
  case c4 => omega
  case c5 => omega
  intro v' w2 hown' hgrow _
  have hb2 : w2.heap[b]? = some (.cells #[.pointer (some ⟨b, 0, none⟩), v] 60 (0, 0)) := by
    rw [hgrow.block b hlt (fun e => hne e.symm)]
    exact HBK.out
  have d0 : w2.cell? ⟨b, 0, none⟩ = some (.pointer (some ⟨b, 0, none⟩)) := by rw [cell_of_block hb2]; rfl
  have d1 : w2.cell? ⟨b, 1, none⟩ = some v := by rw [cell_of_block hb2]; rfl
  have z1 : w2.frozen? ⟨b, 1, none⟩ = false := free_of_block hb2
  have HQ : Hid (BldF B b (l ++ s.data.toList) (w2.setCell ⟨b, 1, none⟩ v') ∧ BKeep B b w (w2.setCell ⟨b, 1, none⟩ v')) := by
    refine ⟨.inr (Go.Lib.BuilderAtF.put hB hb2 ?_ (by decide)), ⟨?_, ?_⟩⟩
    · rw [Go.Lib.byteCells_append, ← Go.Lib.strCells_eq, List.length_append, Go.Lib.byteCells_length, Go.Lib.strCells_length]
      exact hown'
    · exact (HK1.out.below.grown hgrow (by omega) (fun k hk => (hown.lt k hk).1)).setCell (p := ⟨b, 1, none⟩) hB _
    · exact (HK1.out.others.grown hgrow (Go.Lib.ownsRowF_kind hown)).setCell ⟨b, 1, none⟩ rfl _
  obtain ⟨ao, n', cap', rfl⟩ : ∃ ao n cap, v' = .slice ao n cap := by
    rcases hown'.2 with ⟨e, _⟩ | ⟨g, cap, cur, fz, e, _⟩
    · exact ⟨_, _, _, e⟩
    · exact ⟨_, _, _, e⟩
  clear hown' hgrow hown HK1 HBK hb2 hne
  go_wp2_with fail
  go_ret2
  exact ⟨rfl, HQ.out⟩
theorem b_str (B b : Nat) (l : List UInt8) (w : World) (h : BldF B b l w) (h0 : l ≠ []) :
    Calls Tryz.prog 37 #[.pointer (some ⟨b, 0, none⟩)] w fun e w' => e = .returned (.string ⟨l.toArray⟩) ∧ BldF B b l w' ∧ BKeep B b w w' :=
  (Tryz.Builder_String_k B b l w h h0).mono fun e w' ⟨h1, h2, h3, h4⟩ => ⟨h1, h2, ⟨h3, h4⟩⟩
end Go.Proofs.YtijkekkjiboomaaGreatDoor
