/- The library's contracts that value's functions call, laid at this program. -/
import Derived.Shelf.Unicode.ValidAny
import Derived.Test.YtphcnjbiojdalaaGreatDoorProg
import Derived.Shelf.LaysM
import Derived.Shelf.Strconv.Clone
import Derived.Shelf.Strings.BuilderK
import Derived.Test.YtphcnjbiojdalaaGreatDoorLib
import Derived.Test.YtphcnjbiojdalaaGreatDoorPart1
import Derived.Lib.LaidU8T
import Derived.PinnedBridge
import Derived.RangeFuncNested
import Derived.RangeFuncBound
import Derived.RangeFuncCalls
import Derived.RangeFuncLeaves
import Derived.Shelf.Abstract
import Derived.Shelf.RegionOpen
import Derived.WalkKit
import Derived.OwnWalkIn
import Derived.TacticsInMore
import Derived.LoopNIn
import Derived.LoopIn
import Derived.Lib.OthersKept
import Derived.Test.YtphcnjbiojdalaaGreatDoorUtfBij
namespace Go.Proofs
open Go.Shelf
def Tryz.lays196_ren : Go.Shelf.Ren := ⟨fun | 196 => 89 | 259 => 108 | n => n, fun | 9 => 9 | 4 => 4 | 3 => 3 | 5 => 5 | 12 => 12 | 119 => 119 | 0 => 0 | 46 => 114 | 139 => 122 | 138 => 121 | 53 => 22 | n => n, fun | 3 => 1 | 4 => 2 | n => n⟩
theorem Tryz.lays196 : Go.Proofs.Lays.n196 Tryz.prog Tryz.lays196_ren := {
  mixed := by kernel_rfl
  f196 := Tryz.func89.trans (congrArg some (by kernel_rfl))
  f259 := Tryz.func108.trans (congrArg some (by kernel_rfl))
  t0 := Tryz.underlying0
  a0 := Tryz.isAgg0
  z0 := Tryz.sizeOf0
  v0 := Tryz.zeroValue0
  t3 := Tryz.underlying3
  a3 := Tryz.isAgg3
  z3 := Tryz.sizeOf3
  v3 := Tryz.zeroValue3
  t4 := Tryz.underlying4
  a4 := Tryz.isAgg4
  z4 := Tryz.sizeOf4
  v4 := Tryz.zeroValue4
  t5 := Tryz.underlying5
  a5 := Tryz.isAgg5
  z5 := Tryz.sizeOf5
  v5 := Tryz.zeroValue5
  t9 := Tryz.underlying9
  a9 := Tryz.isAgg9
  z9 := Tryz.sizeOf9
  v9 := Tryz.zeroValue9
  t12 := Tryz.underlying12
  a12 := Tryz.isAgg12
  z12 := Tryz.sizeOf12
  v12 := Tryz.zeroValue12
  t46 := Tryz.underlying114
  a46 := Tryz.isAgg114
  z46 := Tryz.sizeOf114
  v46 := Tryz.zeroValue114
  t53 := Tryz.underlying22
  a53 := Tryz.isAgg22
  z53 := Tryz.sizeOf22
  v53 := Tryz.zeroValue22
  t119 := Tryz.underlying119
  a119 := Tryz.isAgg119
  z119 := Tryz.sizeOf119
  t138 := Tryz.underlying121
  a138 := Tryz.isAgg121
  z138 := Tryz.sizeOf121
  v138 := Tryz.zeroValue121
  t139 := Tryz.underlying122
  a139 := Tryz.isAgg122
  z139 := Tryz.sizeOf122
  v139 := Tryz.zeroValue122
  g3 := by kernel_rfl
  g4 := by kernel_rfl }
open Go.RowKit in
theorem Tryz.utf8_ValidString (s : ByteArray) (w : World) (hs : s.size ≤ 9223372036854775807) (hT : Lib.Utf8Tabs (Tryz.lays196_ren.g 3) (Tryz.lays196_ren.g 4) w) :
    Calls Tryz.prog 89 #[.string s] w fun e w' => e = .returned (.bool (Lib.validD s.data.toList)) ∧ Below w.heap.size w w' := Any.utf8_ValidString Tryz.lays196 s w hs hT
end Go.Proofs

/- The library's contracts that value's functions call, laid at this program. -/
namespace Go.Proofs
open Go.Shelf
def Tryz.laysM316_ren : Go.Shelf.Ren := ⟨fun | 316 => 98 | n => n, fun | 9 => 9 | 3 => 3 | 4 => 4 | 37 => 52 | 0 => 0 | 127 => 111 | 5 => 5 | n => n, fun | n => n⟩
theorem Tryz.laysM316 : Go.Proofs.LaysM.n316 Tryz.prog Tryz.laysM316_ren := {
  mixed := by kernel_rfl
  f316 := Tryz.func98.trans (congrArg some (by kernel_rfl))
  t0 := Tryz.underlying0
  a0 := Tryz.isAgg0
  z0 := Tryz.sizeOf0
  v0 := Tryz.zeroValue0
  t3 := Tryz.underlying3
  a3 := Tryz.isAgg3
  z3 := Tryz.sizeOf3
  v3 := Tryz.zeroValue3
  t4 := Tryz.underlying4
  a4 := Tryz.isAgg4
  z4 := Tryz.sizeOf4
  v4 := Tryz.zeroValue4
  t9 := Tryz.underlying9
  a9 := Tryz.isAgg9
  z9 := Tryz.sizeOf9
  v9 := Tryz.zeroValue9
  t37 := Tryz.underlying52
  a37 := Tryz.isAgg52
  z37 := Tryz.sizeOf52
  v37 := Tryz.zeroValue52
  t127 := Tryz.underlying111
  a127 := Tryz.isAgg111
  z127 := Tryz.sizeOf111
  v127 := Tryz.zeroValue111
  t5 := Tryz.underlying5
  a5 := Tryz.isAgg5
  z5 := Tryz.sizeOf5
  v5 := Tryz.zeroValue5
  i0 := by kernel_rfl
  i3 := by kernel_rfl
  i4 := by kernel_rfl
  i5 := by kernel_rfl
  i9 := by kernel_rfl
  i37 := by kernel_rfl
  i127 := by kernel_rfl }
open Go.RowKit in
theorem Tryz.stringslite_Clone (s : ByteArray) (w : World) (hlim : s.size ≤ 281474976710656) :
    Calls Tryz.prog 98 #[.string s] w fun e w' => e = .returned (.string s) ∧ Below w.heap.size w w' := Any.stringslite_Clone Tryz.laysM316 s w hlim
end Go.Proofs

/- The library's contracts that value's functions call, laid at this program. -/
namespace Go.Proofs
open Go.Shelf
def Tryz.lays169_ren : Go.Shelf.Ren := ⟨fun | 169 => 80 | n => n, fun | 70 => 90 | 9 => 9 | 0 => 0 | 72 => 92 | 37 => 52 | 127 => 111 | 3 => 3 | 5 => 5 | n => n, fun | n => n⟩
theorem Tryz.lays169 : Go.Proofs.Lays.n169 Tryz.prog Tryz.lays169_ren := {
  mixed := by kernel_rfl
  f169 := Tryz.func80.trans (congrArg some (by kernel_rfl))
  t0 := Tryz.underlying0
  a0 := Tryz.isAgg0
  z0 := Tryz.sizeOf0
  v0 := Tryz.zeroValue0
  t3 := Tryz.underlying3
  a3 := Tryz.isAgg3
  z3 := Tryz.sizeOf3
  v3 := Tryz.zeroValue3
  t9 := Tryz.underlying9
  a9 := Tryz.isAgg9
  z9 := Tryz.sizeOf9
  v9 := Tryz.zeroValue9
  t37 := Tryz.underlying52
  a37 := Tryz.isAgg52
  z37 := Tryz.sizeOf52
  v37 := Tryz.zeroValue52
  t70 := Tryz.underlying90
  a70 := Tryz.isAgg90
  z70 := Tryz.sizeOf90
  v70 := Tryz.zeroValue90
  t72 := Tryz.underlying92
  a72 := Tryz.isAgg92
  z72 := Tryz.sizeOf92
  v72 := Tryz.zeroValue92
  t127 := Tryz.underlying111
  a127 := Tryz.isAgg111
  z127 := Tryz.sizeOf111
  v127 := Tryz.zeroValue111 }
theorem Tryz.Builder_Extra_169 : Builder.Extra Tryz.prog Tryz.lays169_ren := {
  sizeBuilder := by kernel_rfl
  liesBuilder := by kernel_rfl
  t5 := Tryz.underlying5
  a5 := Tryz.isAgg5
  z5 := Tryz.sizeOf5
  v5 := Tryz.zeroValue5
  infoByte := by kernel_rfl
  cellsByte := by kernel_rfl
  sizeByte := by kernel_rfl
  neB5 := by decide }
open Go.RowKit in
theorem Tryz.Builder_String_k (B b : Nat) (l : List UInt8) (w : World) (h : Lib.IsBuilderF 92 5 B b (Lib.byteCells l) w) (h0 : l ≠ []) :
    Calls Tryz.prog 80 #[.pointer (some ⟨b, 0, none⟩)] w fun e w' => e = .returned (.string ⟨l.toArray⟩) ∧ (Lib.IsBuilderF 92 5 B b (Lib.byteCells l) w' ∧ Below B w w' ∧ Lib.OthersKept 5 (some b) w w') := Any.Builder_String_k Tryz.lays169 Tryz.Builder_Extra_169 B b l w h h0
end Go.Proofs

/- The tables of unicode/utf8, as ValidString reads them. -/
namespace Go.Proofs.YtphcnjbiojdalaaGreatDoor
open Go.RowKit
set_option linter.unusedVariables false
set_option maxRecDepth 100000

/-- Both tables lie as their initialisers lay them. -/
def TabsU (w : World) : Prop := Go.Lib.Utf8Tabs (Tryz.lays196_ren.g 3) (Tryz.lays196_ren.g 4) w
theorem TabsU.keep {w w' : World} (h : TabsU w) (hT : Touch (fun _ => False) w w') : TabsU w' := by
  have go : ∀ (b o : Nat) (v : Value), w.cell? ⟨b, o, none⟩ = some v → w'.cell? ⟨b, o, none⟩ = some v := fun b o v hv => (hT.cell (World.block_lt_of_cell? _ _ hv) id o).trans hv
  exact ⟨fun c hc => go _ _ _ (h.1 c hc), fun i hi => ⟨go _ _ _ (h.2 i hi).1, go _ _ _ (h.2 i hi).2⟩⟩
theorem tabsU_of {w : World} (h3 : Go.Lib.VarReads Tryz.prog w "unicode/utf8.first" Go.Lib.firstData) (h4 : Go.Lib.VarReads Tryz.prog w "unicode/utf8.acceptRanges" Go.Lib.acceptData) : TabsU w :=
  utf8Tabs_of_readsT (U8Types.of196 Tryz.lays196) ⟨by kernel_rfl, by kernel_rfl, by kernel_rfl, by kernel_rfl, by kernel_rfl, by kernel_rfl, by kernel_rfl⟩ h3 h4
/-- ValidString: the document's texts. -/
theorem valid_any (s : ByteArray) (hs : s.size ≤ 9223372036854775807) (w : World) (hT : TabsU w) : Calls Tryz.prog 89 #[.string s] w fun e w' => e = .returned (.bool (runesOf s.data.toList).isSome) ∧ Touch (fun _ => False) w w' := by
  refine (Tryz.utf8_ValidString s w hs hT).mono ?_
  rintro e w' ⟨rfl, hb⟩
  exact ⟨by rw [valid_runes], ⟨hb.os, hb.tape, hb.output, hb.size, fun k hk _ => hb.block k hk⟩⟩
end Go.Proofs.YtphcnjbiojdalaaGreatDoor

/- The contract of the iterator that utf.Runes answers: it gives a text's runes with their numbers, one after another, till it is told that it is enough. -/
namespace Go.Proofs.YtphcnjbiojdalaaGreatDoor
open Go.RowKit Go.Shelf
set_option linter.unusedVariables false
set_option maxRecDepth 100000
attribute [local go_sem] Oper.semAt_some

/-- Runes with their numbers. -/
def enumR : Nat → List Nat → List (Nat × Nat)
  | _, [] => []
  | k, r :: t => (k, r) :: enumR (k + 1) t
theorem enumR_append (k : Nat) (a b : List Nat) : enumR k (a ++ b) = enumR k a ++ enumR (k + a.length) b := by
  induction a generalizing k with
  | nil => rfl
  | cons r a ih => simp only [List.cons_append, enumR, ih, List.length_cons]; rw [show k + 1 + a.length = k + (a.length + 1) from by omega]
theorem enumR_len (k : Nat) (a : List Nat) : (enumR k a).length = a.length := by
  induction a generalizing k with
  | nil => rfl
  | cons r a ih => simp [enumR, ih]
theorem enumR_snoc (a : List Nat) (r : Nat) : enumR 0 (a ++ [r]) = enumR 0 a ++ [(a.length, r)] := by
  rw [enumR_append, Nat.zero_add]; rfl
abbrev enc2 (p : Nat × Nat) : Array Value := #[.int .i64 (p.1 : Int), .int .i32 (p.2 : Int)]
theorem Touch.grownNone {w w' : World} (h : Touch (fun _ => False) w w') : w.grownBy w' none := ⟨h.os, h.tape, h.output, h.size, fun k hk _ => h.block k hk id⟩
theorem Touch.ofBelow {w w' : World} (h : Below w.heap.size w w') : Touch (fun _ => False) w w' := ⟨h.os, h.tape, h.output, h.size, fun k hk _ => h.block k hk⟩
theorem grown_iterAt (w : World) (k : Nat) (s : ByteArray) (pos : Nat) : w.grownBy (w.iterAt k s pos) (some k) :=
  ⟨rfl, rfl, rfl, by rw [Go.Lib.iterAt_size]; exact Nat.le_refl _, fun i hi hn => Go.Lib.iterAt_other w k i s pos (fun e => hn (by rw [e]))⟩

theorem walks_of {W W' : World} (h : KeepsOthers W W') : KeepsWalks W W' := ⟨h.size, fun k o hk ho => h.same k o hk (Obj.not_cells_of_walk ho)⟩
theorem Touch.keepsOthers {w w' : World} (h : Touch (fun _ => False) w w') : KeepsOthers w w' := ⟨h.size, fun k o hk _ => (h.block k (Array.getElem?_eq_some_iff.1 hk).1 id).trans hk⟩
theorem wide1 {n : Nat} : Fence.wide.depth.isSome = true → 1 ≤ n := fun h => absurd h (by simp [Fence.wide])
theorem iterPos_of {w : World} {k : Nat} {s : ByteArray} {p : Nat} (h : w.heap[k]? = some (.stringIter s p)) : w.iterPos k = p := by simp [World.iterPos, h]

set_option maxHeartbeats 2000000 in
theorem runes_stops (n B : Nat) (s : ByteArray) (hs : s.size ≤ 9223372036854775807) (w : World) (hb : w.cell? ⟨B, 0, none⟩ = some (.string s))
    (hC : ∀ w', Below w.heap.size w w' → Calls Tryz.prog 88 #[.string s] w' fun e w'' => e = .returned (.bool (runesOf s.data.toList).isSome) ∧ Touch (fun _ => False) w' w'') :
    SeqStopsK Fence.wide n Tryz.prog 97 #[.pointer (some ⟨B, 0, none⟩)] enc2 KeepsWalks (fun xs => xs = enumR 0 (rsOf s.data.toList)) (fun pre => pre <+: enumR 0 (rsOf s.data.toList)) (rsOf s.data.toList).length w := fun l J Jx W hW hJ hJx hY h0 => by
  have hbl : B < w.heap.size := World.block_lt_of_cell? _ _ hb
  have hb' : W.cell? ⟨B, 0, none⟩ = some (.string s) := (hW.cell (p := ⟨B, 0, none⟩) hbl).trans hb
  have HC : Hid (∀ w', Below w.heap.size w w' → Calls Tryz.prog 88 #[.string s] w' fun e w'' => e = .returned (.bool (runesOf s.data.toList).isSome) ∧ Touch (fun _ => False) w' w'') := hC
  have HJ : Hid (AbidesFrom W.heap.size J) := hJ
  clear hC hJ hJx
  refine callsIn_of_wp Tryz.func97 rfl trivial ?_ rfl
  simp only [Tryz.ntmps97, List.size_toArray, List.length_cons, List.length_nil, Nat.reduceAdd, Nat.reduceSub, Array.replicate_succ, Array.replicate_zero, List.push_toArray, List.append_toArray, List.nil_append, List.cons_append]
  gi_wp2_with fail
  refine ⟨trivial, wide1, (callsIn_wide.2 (HC.out _ hW)).mono ?_⟩
  rintro e W1 ⟨rfl, hT⟩
  have h01 : J [] W1 := HJ.out _ _ _ _ h0 hT.grownNone (fun r e => by cases e)
  have HS1 : Hid (W.heap.size ≤ W1.heap.size) := hT.size
  have hb1 : W1.cell? ⟨B, 0, none⟩ = some (.string s) := (hT.cell (b := B) (Nat.lt_of_lt_of_le hbl hW.size) id 0).trans hb'
  have HY : Hid _ := hY
  clear hT hY
  cases hr : runesOf s.data.toList with
  | none =>
    have HE : Hid (rsOf s.data.toList = []) := rsOf_none hr
    clear hr
    simp only [Option.isSome_none]
    gi_wp2
    refine bodyPost_ret (results_none rfl _ _ _) rfl ?_
    exact ⟨⟨_, rfl⟩, .inl ⟨[], by rw [HE.out]; rfl, h01⟩⟩
  | some rs =>
    have HE : Hid (rsOf s.data.toList = rs) := rsOf_some hr
    have HR : Hid (runesOf s.data.toList = some rs) := hr
    clear hr
    simp only [Option.isSome_some]
    gi_wp2
    gi_loopw [3] (fun a wr => ∃ (pos : Nat) (done rest : List Nat), a = .int .i64 (done.length : Int) ∧ wr.heap[W1.heap.size]? = some (.stringIter s pos) ∧ pos ≤ s.size ∧ rs = done ++ rest ∧ runesOf (s.data.toList.drop pos) = some rest ∧ J (enumR 0 done) wr) (fun _ wr => s.size - wr.iterPos W1.heap.size)
    case atStart => exact ⟨0, [], rs, rfl, by have := World.iter_heap W1 s 0; simpa using this, Nat.zero_le _, rfl, by simpa using HR.out, HJ.out _ _ _ none h01 (World.grownBy_alloc W1 _ none) (fun r e => by cases e)⟩
    case round =>
      obtain ⟨pos, done, rest, rfl, hit, hpos, hrs, hrest, hJr⟩ := hrel
      have HRS : Hid (rs = done ++ rest) := hrs
      have HRest : Hid (runesOf (s.data.toList.drop pos) = some rest) := hrest
      have hsl : s.data.toList.length = s.size := by simp
      have hlen : rs.length ≤ s.size := by have := rsOf_len s.data.toList; rw [HE.out, hsl] at this; exact this
      have hdone : done.length + rest.length = rs.length := by rw [HRS.out, List.length_append]
      clear hrs hrest
      by_cases hp : pos < s.size
      · have hnx : ∀ ty, (Instr.next (.pointer (some ⟨W1.heap.size, 0, none⟩)) true ty).run Tryz.prog wr = _ := fun ty => Go.Lib.run_next_any_at wr W1.heap.size s pos ty hit hp
        have hit2 := Go.Lib.iterAt_heap wr W1.heap.size s pos (pos + (Utf8.decode s pos).2) hit
        have hne : s.data.toList.drop pos ≠ [] := by intro e; have := congrArg List.length e; rw [List.length_drop, hsl, List.length_nil] at this; omega
        have hst := HRest.out
        rw [runesOf_step hne] at hst
        by_cases hz : (nxt (s.data.toList.drop pos)).2 = 0
        · rw [if_pos hz] at hst; simp at hst
        rw [if_neg hz, (nxt_dec _ hz).1, Go.Lib.decodeL_drop, Option.map_eq_some_iff] at hst
        obtain ⟨rest', hr', he'⟩ := hst
        have hle := (nxt_le (s.data.toList.drop pos)).resolve_right hne
        rw [(nxt_dec _ hz).1, Go.Lib.decodeL_drop, List.length_drop, hsl] at hle
        rw [(nxt_dec _ hz).1, Go.Lib.decodeL_drop] at hz
        subst he'
        rw [List.drop_drop] at hr'
        have HR' : Hid (runesOf (s.data.toList.drop (pos + (Utf8.decode s pos).2)) = some rest') := hr'
        have hJ2 : J (enumR 0 done) (wr.iterAt W1.heap.size s (pos + (Utf8.decode s pos).2)) := HJ.out _ _ _ _ hJr (grown_iterAt _ _ _ _) (fun r e => by cases e; exact ⟨HS1.out, _, hit, rfl⟩)
        generalize hX : Utf8.decode s pos = X at *
        obtain ⟨r, k⟩ := X
        have HX : Hid (Utf8.decode s pos = (r, k)) := hX
        clear hX hr' hne
        simp only [List.length_cons] at *
        obtain ⟨fn, tmps, assign, body, hy, hR⟩ := HY.out (enumR 0 done) (done.length, r) (wr.iterAt W1.heap.size s (pos + k)) hJ2 (by rw [enumR_len, HE.out]; omega)
        have HY2 : Hid (enumR 0 done ++ [(done.length, r)] = enumR 0 (done ++ [r])) := (enumR_snoc done r).symm
        have HP : Hid (enumR 0 (done ++ [r]) <+: enumR 0 (rsOf s.data.toList)) := by
          rw [Hid, HE.out, HRS.out, show done ++ r :: rest' = (done ++ [r]) ++ rest' from by simp, enumR_append 0 (done ++ [r])]
          exact List.prefix_append _ _
        have HPos := iterPos_of hit
        have HPosH : Hid (wr.iterPos W1.heap.size = pos) := HPos
        clear HPos
        gi_wp2
        refine ⟨wide1, hR.mono ?_⟩
        rintro e W3 (⟨rfl, hJ3, hk3⟩ | ⟨rfl, hJx3⟩)
        · have hit3 := hk3.same _ _ hit2 rfl
          have hJ4 : J (enumR 0 (done ++ [r])) W3 := by rw [← HY2.out]; exact hJ3
          have hdl : (done ++ [r]).length = done.length + 1 := by simp
          have HDL : Hid ((done ++ [r]).length = done.length + 1) := hdl
          have HHit : Hid (W3.heap[W1.heap.size]? = some (Obj.stringIter s (pos + k))) := hit3
          clear hdl hk3 hJ3 hy hR hit3 hnx
          gi_wp2
          go_roundw
          case rel => exact ⟨pos + k, done ++ [r], rest', by rw [HDL.out]; go_num, HHit.out, by omega, by rw [HRS.out]; simp, HR'.out, hJ4⟩
          case measure => rw [iterPos_of HHit.out, HPosH.out]; omega
        · gi_wp2
          refine bodyPost_ret (results_none rfl _ _ _) rfl ?_
          exact ⟨⟨_, rfl⟩, .inr ⟨enumR 0 (done ++ [r]), HP.out, by rw [← HY2.out]; exact hJx3⟩⟩
      · have hnx : ∀ ty, (Instr.next (.pointer (some ⟨W1.heap.size, 0, none⟩)) true ty).run Tryz.prog wr = _ := fun ty => Go.Lib.run_next_end_at wr W1.heap.size s pos ty hit hp
        have HF : Hid (enumR 0 done = enumR 0 (rsOf s.data.toList)) := by
          have h1 := HRest.out
          rw [List.drop_eq_nil_of_le (by rw [hsl]; omega), runesOf_nil] at h1
          have h2 := HRS.out
          rw [← Option.some.inj h1, List.append_nil] at h2
          rw [Hid, HE.out, h2]
        gi_wp2
        go_end0
        exact ⟨⟨_, rfl⟩, .inl ⟨enumR 0 done, HF.out, hJr⟩⟩
end Go.Proofs.YtphcnjbiojdalaaGreatDoor
