/- The contracts of strings.Builder's copyCheck and WriteByte at this program. -/
import Derived.Test.YtaihofkmcpcjeaaDoorPart1
import Derived.Test.YtaihofkmcpcjeaaDoorProg
import Derived.Maps.AppendAt
import Derived.Lib.Builder
namespace Go.Proofs.YtaihofkmcpcjeaaDoor
open Go.RowKit
set_option linter.unusedVariables false
set_option maxRecDepth 100000

theorem infoB : (Tryd.prog.info? 110).map (·.size) = some 2 := by kernel_rfl
theorem noEscape_run (x : Value) (w : World) : (callFunc 111 #[x]).run Tryd.prog w = .ok (.value x) w := by kernel_rfl

/-- A Builder of the call's own, at block b (all its blocks from B on), that holds these bytes. -/
abbrev Bld (B b : Nat) (l : List UInt8) (w : World) : Prop := Go.Lib.IsBuilder 110 5 B b (cellsOf l) w

/-- A Builder's address, seen without its type, and back. -/
theorem ptr_out (b : Nat) (w : World) (j : TypeInfo) (hj : Tryd.prog.info? 110 = some j) (h0 : j.size ≠ 0) (hsh : w.shape? b = some (110, 2)) : (convert 108 133 (.pointer (some ⟨b, 0, none⟩))).run Tryd.prog w = .ok (.pointer (some ⟨b, 0, none⟩)) w := by
  simp [convert, run_underlying Tryd.underlying108, run_underlying Tryd.underlying133, Conv.unsafePointer, Conv.seenAt, viewAt, cellsIn, hsh, sizeOf, typeInfo, hj, h0]
theorem ptr_back (b : Nat) (w : World) (j : TypeInfo) (hj : Tryd.prog.info? 110 = some j) (hsh : w.shape? b = some (110, 2)) : (convert 133 108 (.pointer (some ⟨b, 0, none⟩))).run Tryd.prog w = .ok (.pointer (some ⟨b, 0, none⟩)) w := by
  have hl : liesAt Tryd.prog Tryd.prog.depth 110 (2 / Tryd.prog.cellsOf 110) 0 110 1 = true := by kernel_rfl
  simp [convert, run_underlying Tryd.underlying108, run_underlying Tryd.underlying133, Conv.unsafePointer, Conv.seenAt, viewAt, hsh, variablesAt, hl, sizeOf, typeInfo, hj]

set_option maxHeartbeats 400000 in
theorem b_copyCheck_fresh (b : Nat) (w : World) (c0 : w.cell? ⟨b, 0, none⟩ = some (.pointer none)) (hsh : w.shape? b = some (110, 2)) (z0 : w.frozen? ⟨b, 0, none⟩ = false) :
    Calls Tryd.prog 103 #[.pointer (some ⟨b, 0, none⟩)] w fun e w' => e = .returned (.tuple #[]) ∧ w' = w.setCell ⟨b, 0, none⟩ (.pointer (some ⟨b, 0, none⟩)) := by
  obtain ⟨j, hj, hs⟩ : ∃ j, Tryd.prog.info? 110 = some j ∧ j.size = 2 := by
    have := infoB
    cases h : Tryd.prog.info? 110 with
    | none => rw [h] at this; cases this
    | some j => rw [h] at this; exact ⟨j, rfl, by simpa using this⟩
  have hto : (convert 108 133 (.pointer (some ⟨b, 0, none⟩))).run Tryd.prog w = .ok (.pointer (some ⟨b, 0, none⟩)) w :=
    ptr_out b w j hj (by omega) hsh
  have hfrom : (convert 133 108 (.pointer (some ⟨b, 0, none⟩))).run Tryd.prog w = .ok (.pointer (some ⟨b, 0, none⟩)) w :=
    ptr_back b w j hj hsh
  have hne := noEscape_run
  have hq : ∀ w, (binOp .neq 108 (.pointer (some ⟨b, 0, none⟩)) (.pointer (some ⟨b, 0, none⟩))).run Tryd.prog w = .ok (.bool false) w := fun w => Go.Lib.run_neq_ptr_same w ⟨b, 0, none⟩ Tryd.underlying108 hj
  have c1 := World.cell?_setCell_same w ⟨b, 0, none⟩ (.pointer (some ⟨b, 0, none⟩)) c0
  clear hj hs hsh
  go_enter Tryd.func103, Tryd.ntmps103
  go_wp2_with fail
  go_end0
  exact ⟨rfl, rfl⟩

set_option maxHeartbeats 400000 in
theorem b_copyCheck_used (b : Nat) (w : World) (c0 : w.cell? ⟨b, 0, none⟩ = some (.pointer (some ⟨b, 0, none⟩))) :
    Calls Tryd.prog 103 #[.pointer (some ⟨b, 0, none⟩)] w fun e w' => e = .returned (.tuple #[]) ∧ w' = w := by
  obtain ⟨j, hj, hs⟩ : ∃ j, Tryd.prog.info? 110 = some j ∧ j.size = 2 := by
    have := infoB
    cases h : Tryd.prog.info? 110 with
    | none => rw [h] at this; cases this
    | some j => rw [h] at this; exact ⟨j, rfl, by simpa using this⟩
  have hq : ∀ w, (binOp .neq 108 (.pointer (some ⟨b, 0, none⟩)) (.pointer (some ⟨b, 0, none⟩))).run Tryd.prog w = .ok (.bool false) w := fun w => Go.Lib.run_neq_ptr_same w ⟨b, 0, none⟩ Tryd.underlying108 hj
  clear hj hs
  go_enter Tryd.func103, Tryd.ntmps103
  go_wp2_with fail
  go_end0
  exact ⟨rfl, rfl⟩

theorem b_copyCheck (B b : Nat) (l : List UInt8) (w : World) (h : Bld B b l w) :
    Calls Tryd.prog 103 #[.pointer (some ⟨b, 0, none⟩)] w fun e w' => e = .returned (.tuple #[]) ∧ Go.Lib.BuilderAt 110 5 B b (.pointer (some ⟨b, 0, none⟩)) (cellsOf l) w' ∧ Below B w w' := by
  rcases h with h | h
  · refine (b_copyCheck_fresh b w h.cell0 h.shape h.frozen0).mono ?_
    rintro e w' ⟨rfl, rfl⟩
    exact ⟨rfl, h.used _, (Below.refl B w).setCell (p := ⟨b, 0, none⟩) h.1 _⟩
  · refine (b_copyCheck_used b w h.cell0).mono ?_
    rintro e w' ⟨rfl, rfl⟩
    exact ⟨rfl, h, Below.refl B _⟩

set_option maxHeartbeats 400000 in
theorem b_writeByte (B b : Nat) (l : List UInt8) (c : UInt8) (x : Int) (hx : x = c.toNat) (w : World) (h : Bld B b l w) (hlen : l.length + 1 ≤ 140737488355328) (hBw : B ≤ w.heap.size) :
    Calls Tryd.prog 89 #[.pointer (some ⟨b, 0, none⟩), .int .u8 x] w fun e w' => e = .returned .nilIface ∧ Bld B b (l ++ [c]) w' ∧ Below B w w' := by
  subst hx
  have HC : Hid (Calls Tryd.prog 103 #[.pointer (some ⟨b, 0, none⟩)] w fun e w' => e = .returned (.tuple #[]) ∧ Go.Lib.BuilderAt 110 5 B b (.pointer (some ⟨b, 0, none⟩)) (cellsOf l) w' ∧ Below B w w') := b_copyCheck B b l w h
  clear h
  obtain ⟨i0, hi, hz0, hz1, hz2⟩ := info_parts Tryd.infoByte
  go_enter Tryd.func89, Tryd.ntmps89
  go_wp2_with fail
  refine HC.out.mono ?_
  rintro e w1 ⟨rfl, ⟨hB, v, hbk, hown, hne⟩, hb1⟩
  have c0 : w1.cell? ⟨b, 0, none⟩ = some (.pointer (some ⟨b, 0, none⟩)) := by rw [cell_of_block hbk]; rfl
  have c1 : w1.cell? ⟨b, 1, none⟩ = some v := by rw [cell_of_block hbk]; rfl
  have hlt : b < w1.heap.size := lt_of_heap hbk
  have HB1 : Hid (Below B w w1) := hb1
  have HBK : Hid (w1.heap[b]? = some (.cells #[.pointer (some ⟨b, 0, none⟩), v] 110 (0, 0))) := hbk
  have hBw1 : B ≤ w1.heap.size := Nat.le_trans hBw hb1.size
  rw [cellsOf_length] at hown
  clear hb1 hbk
  go_wp2_with (first | (at_builtin; refine wpList_append_own _ rfl _ _ 40 rfl B 5 i0 (.int .u8 0) 1 1 Tryd.underlying40 hi hz0 hz1 hz2 rfl (by decide) _ _ _ rfl (hown.alloc _) ⟨w1.heap.size, 0, none⟩ 1 1 [.int .u8 (c.toNat : Int)] rfl rfl ?c1 ?c2 ?c3 ?c4 ?c5 ?_))
  case c1 =>
    intro j u hj
    match j, hj with
    | 0, hj => simp at hj; subst hj; simp [Addr.add]
  case c2 => intro u hu; simp at hu; subst hu; rfl
  case c3 => unfold maxLen; omega
  case c4 => omega
  case c5 => simp; omega
  intro v' w2 hown' hgrow _
  have hb2 : w2.heap[b]? = some (.cells #[.pointer (some ⟨b, 0, none⟩), v] 110 (0, 0)) := by
    rw [hgrow.block b (by simp; omega) (fun e => hne e.symm), Below.heap_alloc _ _ _ hlt]
    exact HBK.out
  have d0 : w2.cell? ⟨b, 0, none⟩ = some (.pointer (some ⟨b, 0, none⟩)) := by rw [cell_of_block hb2]; rfl
  have d1 : w2.cell? ⟨b, 1, none⟩ = some v := by rw [cell_of_block hb2]; rfl
  have z1 : w2.frozen? ⟨b, 1, none⟩ = false := free_of_block hb2
  have hne' : v'.ownBlock ≠ some b := by
    intro e
    rcases hown'.2 with ⟨rfl, _⟩ | ⟨g, cap, cur, rfl, _, hg, _⟩
    · simp [Value.ownBlock] at e
    · simp only [Value.ownBlock, Option.some.injEq] at e
      subst e
      rw [hg] at hb2
      simp at hb2
  have HQ : Hid (Bld B b (l ++ [c]) (w2.setCell ⟨b, 1, none⟩ v') ∧ Below B w (w2.setCell ⟨b, 1, none⟩ v')) := by
    refine ⟨.inr ⟨hB, v', ?_, ?_, hne'⟩, ?_⟩
    · rw [heap_setCell_same _ _ _ _ hb2]; rfl
    · have h1 : (cellsOf (l ++ [c])).length = l.length + 1 := by rw [cellsOf_length, List.length_append]; rfl
      rw [h1, cellsOf_append]
      refine hown'.kept (row := some b) ⟨rfl, rfl, rfl, by simp [World.setCell], fun k _ hk => Below.heap_setCell _ _ _ _ (fun e => hk (by simp [e]))⟩ ?_
      exact Or.inr hne'
    · refine Below.setCell ?_ (p := ⟨b, 1, none⟩) hB _
      have hb := hgrow
      refine ⟨hb.os.trans HB1.out.os, hb.tape.trans HB1.out.tape, hb.output.trans HB1.out.output, Nat.le_trans HB1.out.size (Nat.le_trans (by simp) hb.size), fun k hk => ?_⟩
      have hkw : k < w1.heap.size := by omega
      rw [hb.block k (by simp; omega) ?_, Below.heap_alloc _ _ _ hkw]
      · exact HB1.out.block k hk
      · intro e
        rcases hown.2 with ⟨rfl, _⟩ | ⟨g, cap, cur, rfl, hgB, _⟩
        · simp [Value.ownBlock] at e
        · simp only [Value.ownBlock, Option.some.injEq] at e
          omega
  obtain ⟨ao, n', cap', rfl⟩ : ∃ ao n cap, v' = .slice ao n cap := by
    rcases hown'.2 with ⟨e, _⟩ | ⟨g, cap, cur, e, _⟩
    · exact ⟨_, _, _, e⟩
    · exact ⟨_, _, _, e⟩
  clear hown' hgrow hown HB1 HBK hb2 hne hne'
  go_wp2_with fail
  go_ret
  exact ⟨rfl, HQ.out⟩
end Go.Proofs.YtaihofkmcpcjeaaDoor
