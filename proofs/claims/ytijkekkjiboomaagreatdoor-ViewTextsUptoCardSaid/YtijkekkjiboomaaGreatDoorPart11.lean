/- Views: runs in memory. -/
import Derived.Test.YtijkekkjiboomaaGreatDoorPart2
import Derived.Test.YtijkekkjiboomaaGreatDoorPart10
import Derived.RangeFuncNested
import Derived.RangeFuncBound
import Derived.RangeFuncCalls
import Derived.RangeFuncLeaves
import Derived.Shelf.Abstract
import Derived.Shelf.RegionOpen
import Derived.WalkKit
import Derived.OwnWalkIn
import Derived.TacticsInMore
import Derived.LoopNIn
import Derived.LoopIn
import Derived.Lib.OthersKept
import Derived.Test.YtijkekkjiboomaaGreatDoorPart7
namespace Go.Proofs.YtijkekkjiboomaaGreatDoor
open Go.RowKit
set_option linter.unusedVariables false
set_option linter.unusedSimpArgs false

theorem rwO_cells {W : World} {m : Nat} {r : Rw} (h : W.heap[m]? = some (rwO r)) : W.cell? ⟨m, 0, none⟩ = some (.string r.tx) ∧ W.cell? ⟨m, 1, none⟩ = some (.bool r.em) ∧ W.cell? ⟨m, 2, none⟩ = some (.int .i64 r.vk) ∧ W.cell? ⟨m, 3, none⟩ = some (.int .i64 r.vn) ∧ W.cell? ⟨m, 4, none⟩ = some (.float .f64 r.vf) ∧ W.cell? ⟨m, 5, none⟩ = some (.string r.vs) ∧ W.cell? ⟨m, 6, none⟩ = some (.slice r.ms.a r.ms.n r.ms.c) :=
  ⟨by rw [cell_of_block h]; rfl, by rw [cell_of_block h]; rfl, by rw [cell_of_block h]; rfl, by rw [cell_of_block h]; rfl, by rw [cell_of_block h]; rfl, by rw [cell_of_block h]; rfl, by rw [cell_of_block h]; rfl⟩
abbrev Rw.vv (r : Rw) : V := ⟨r.vk, r.vn, r.vf, r.vs⟩
/-- What lies as r is the run x. -/
structure MtR (w : World) (r : Rw) (x : Rn) : Prop where
  tx : r.tx = x.tx
  em : r.em = x.em
  v : r.vv = x.v
  ml : SlY w r.ms.val x.ml
theorem MtR.touch {w w' : World} {r : Rw} {x : Rn} (h : MtR w r x) (t : Touch (fun _ => False) w w') : MtR w' r x := ⟨h.tx, h.em, h.v, h.ml.touch t⟩
def AllMt (w : World) : List Rw → List Rn → Prop
  | [], [] => True
  | r :: raw, x :: L => MtR w r x ∧ AllMt w raw L
  | [], _ :: _ => False
  | _ :: _, [] => False
theorem AllMt.len {w : World} : ∀ {raw : List Rw} {L : List Rn}, AllMt w raw L → raw.length = L.length
  | [], [], _ => rfl
  | r :: raw, x :: L, h => by rw [List.length_cons, List.length_cons, AllMt.len h.2]
theorem AllMt.touch {w w' : World} (t : Touch (fun _ => False) w w') : ∀ {raw : List Rw} {L : List Rn}, AllMt w raw L → AllMt w' raw L
  | [], [], _ => trivial
  | r :: raw, x :: L, h => ⟨h.1.touch t, AllMt.touch t h.2⟩
theorem AllMt.get {w : World} : ∀ {raw : List Rw} {L : List Rn}, AllMt w raw L → ∀ i (h1 : i < raw.length) (h2 : i < L.length), MtR w raw[i] L[i]
  | r :: raw, x :: L, h, 0, _, _ => h.1
  | r :: raw, x :: L, h, i + 1, h1, h2 => AllMt.get h.2 i (by simpa using h1) (by simpa using h2)
theorem AllMt.append {w : World} : ∀ {a : List Rw} {A : List Rn} {b : List Rw} {B : List Rn}, AllMt w a A → AllMt w b B → AllMt w (a ++ b) (A ++ B)
  | [], [], _, _, _, h => h
  | r :: a, x :: A, _, _, h, k => ⟨h.1, AllMt.append h.2 k⟩
theorem AllMt.split {w : World} : ∀ {raw : List Rw} {A B : List Rn}, AllMt w raw (A ++ B) → ∃ a b, raw = a ++ b ∧ AllMt w a A ∧ AllMt w b B
  | raw, [], B, h => ⟨[], raw, rfl, trivial, h⟩
  | r :: raw, x :: A, B, h => by
    obtain ⟨a, b, e, h1, h2⟩ := AllMt.split (A := A) h.2
    exact ⟨r :: a, b, by rw [e]; rfl, ⟨h.1, h1⟩, h2⟩
theorem AllMt.one {w : World} {raw : List Rw} {x : Rn} (h : AllMt w raw [x]) : ∃ r, raw = [r] ∧ MtR w r x := by
  match raw, h with
  | [r], h => exact ⟨r, rfl, h.1⟩
theorem AllMt.snoc {w : World} {raw : List Rw} {L : List Rn} {r : Rw} {x : Rn} (h : AllMt w raw L) (k : MtR w r x) : AllMt w (raw ++ [r]) (L ++ [x]) := h.append ⟨k, trivial⟩
theorem AllMt.mono {w w' : World} : ∀ {raw : List Rw} {L : List Rn}, AllMt w raw L → (∀ r x, r ∈ raw → MtR w r x → MtR w' r x) → AllMt w' raw L
  | [], [], _, _ => trivial
  | r :: raw, x :: L, h, k => ⟨k r x (by simp) h.1, AllMt.mono h.2 fun r x hr => k r x (List.mem_cons_of_mem _ hr)⟩
/-- v is a slice of the runs L. -/
def SlRn (w : World) (v : Value) (L : List Rn) : Prop := ∃ raw, SlW w v raw ∧ AllMt w raw L
theorem SlRn.touch {w w' : World} {v : Value} {L : List Rn} (h : SlRn w v L) (t : Touch (fun _ => False) w w') : SlRn w' v L := by
  obtain ⟨raw, h1, h2⟩ := h
  exact ⟨raw, h1.touch t, h2.touch t⟩
theorem SlRn.nil (w : World) : SlRn w (.slice none 0 0) [] := ⟨[], SlW.nil w, trivial⟩
theorem SlRn.shape {w : World} {v : Value} {L : List Rn} (h : SlRn w v L) : ∃ ao cap, v = .slice ao L.length cap ∧ (ao = none → cap = 0) ∧ L.length ≤ cap ∧ cap ≤ 9223372036854775807 := by
  obtain ⟨raw, h1, h2⟩ := h
  obtain ⟨ao, cap, e, a, b, c⟩ := h1.shape
  rw [h2.len] at e b
  exact ⟨ao, cap, e, a, b, c⟩
theorem SlW.at {w : World} {ao : Option Addr} {n cap : Nat} {l : List Rw} (h : SlW w (.slice ao n cap) l) (hne : l ≠ []) : ∃ b o, ao = some ⟨b, o, none⟩ ∧ b < w.heap.size ∧ ∀ wr, Touch (fun _ => False) w wr → ∀ j (h : j < l.length), wr.cell? ⟨b, o + j * 7, none⟩ = some (.string l[j].tx) ∧ wr.cell? ⟨b, o + j * 7 + 1, none⟩ = some (.bool l[j].em) ∧ wr.cell? ⟨b, o + j * 7 + 2, none⟩ = some (.int .i64 l[j].vk) ∧ wr.cell? ⟨b, o + j * 7 + 3, none⟩ = some (.int .i64 l[j].vn) ∧ wr.cell? ⟨b, o + j * 7 + 4, none⟩ = some (.float .f64 l[j].vf) ∧ wr.cell? ⟨b, o + j * 7 + 5, none⟩ = some (.string l[j].vs) ∧ wr.cell? ⟨b, o + j * 7 + 6, none⟩ = some (.slice l[j].ms.a l[j].ms.n l[j].ms.c) := by
  obtain ⟨b, o, c, e, -, -, hb, -⟩ := h.row hne
  simp only [Value.slice.injEq] at e
  refine ⟨b, o, e.1, hb, fun wr t j hj => ?_⟩
  obtain ⟨b', o', c', e', -, -, -, hx⟩ := (h.touch t).row hne
  simp only [Value.slice.injEq] at e'
  rw [e.1, Option.some.injEq, Addr.mk.injEq] at e'
  obtain ⟨⟨rfl, rfl, -⟩, -⟩ := e'
  exact hx j hj
end Go.Proofs.YtijkekkjiboomaaGreatDoor

/- The contract of the iterator that utf.Runes answers: it gives a text's runes with their numbers, one after another, till it is told that it is enough. -/
namespace Go.Proofs.YtijkekkjiboomaaGreatDoor
open Go.RowKit Go.Shelf
set_option linter.unusedVariables false
set_option maxRecDepth 100000
attribute [local go_sem] Oper.semAt_some

/-- Runes with their numbers. -/
def enumR : Nat → List Nat → List (Nat × Nat)
  | _, [] => []
  | k, r :: t => (k, r) :: enumR (k + 1) t
theorem enumR_append (k : Nat) (a b : List Nat) : enumR k (a ++ b) = enumR k a ++ enumR (k + a.length) b := by
  induction a generalizing k with
  | nil => rfl
  | cons r a ih => simp only [List.cons_append, enumR, ih, List.length_cons]; rw [show k + 1 + a.length = k + (a.length + 1) from by omega]
theorem enumR_len (k : Nat) (a : List Nat) : (enumR k a).length = a.length := by
  induction a generalizing k with
  | nil => rfl
  | cons r a ih => simp [enumR, ih]
theorem enumR_snoc (a : List Nat) (r : Nat) : enumR 0 (a ++ [r]) = enumR 0 a ++ [(a.length, r)] := by
  rw [enumR_append, Nat.zero_add]; rfl
abbrev enc2 (p : Nat × Nat) : Array Value := #[.int .i64 (p.1 : Int), .int .i32 (p.2 : Int)]
theorem Touch.grownNone {w w' : World} (h : Touch (fun _ => False) w w') : w.grownBy w' none := ⟨h.os, h.tape, h.output, h.size, fun k hk _ => h.block k hk id⟩
theorem Touch.ofBelow {w w' : World} (h : Below w.heap.size w w') : Touch (fun _ => False) w w' := ⟨h.os, h.tape, h.output, h.size, fun k hk _ => h.block k hk⟩
theorem grown_iterAt (w : World) (k : Nat) (s : ByteArray) (pos : Nat) : w.grownBy (w.iterAt k s pos) (some k) :=
  ⟨rfl, rfl, rfl, by rw [Go.Lib.iterAt_size]; exact Nat.le_refl _, fun i hi hn => Go.Lib.iterAt_other w k i s pos (fun e => hn (by rw [e]))⟩

theorem walks_of {W W' : World} (h : KeepsOthers W W') : KeepsWalks W W' := ⟨h.size, fun k o hk ho => h.same k o hk (Obj.not_cells_of_walk ho)⟩
theorem Touch.keepsOthers {w w' : World} (h : Touch (fun _ => False) w w') : KeepsOthers w w' := ⟨h.size, fun k o hk _ => (h.block k (Array.getElem?_eq_some_iff.1 hk).1 id).trans hk⟩
theorem wide1 {n : Nat} : Fence.wide.depth.isSome = true → 1 ≤ n := fun h => absurd h (by simp [Fence.wide])
theorem iterPos_of {w : World} {k : Nat} {s : ByteArray} {p : Nat} (h : w.heap[k]? = some (.stringIter s p)) : w.iterPos k = p := by simp [World.iterPos, h]

set_option maxHeartbeats 2000000 in
theorem runes_stops (n B : Nat) (s : ByteArray) (hs : s.size ≤ 9223372036854775807) (w : World) (hb : w.cell? ⟨B, 0, none⟩ = some (.string s))
    (hC : ∀ w', Below w.heap.size w w' → Calls Tryz.prog 39 #[.string s] w' fun e w'' => e = .returned (.bool (runesOf s.data.toList).isSome) ∧ Touch (fun _ => False) w' w'') :
    SeqStopsK Fence.wide n Tryz.prog 103 #[.pointer (some ⟨B, 0, none⟩)] enc2 KeepsWalks (fun xs => xs = enumR 0 (rsOf s.data.toList)) (fun pre => pre <+: enumR 0 (rsOf s.data.toList)) (rsOf s.data.toList).length w := fun l J Jx W hW hJ hJx hY h0 => by
  have hbl : B < w.heap.size := World.block_lt_of_cell? _ _ hb
  have hb' : W.cell? ⟨B, 0, none⟩ = some (.string s) := (hW.cell (p := ⟨B, 0, none⟩) hbl).trans hb
  have HC : Hid (∀ w', Below w.heap.size w w' → Calls Tryz.prog 39 #[.string s] w' fun e w'' => e = .returned (.bool (runesOf s.data.toList).isSome) ∧ Touch (fun _ => False) w' w'') := hC
  have HJ : Hid (AbidesFrom W.heap.size J) := hJ
  clear hC hJ hJx
  refine callsIn_of_wp Tryz.func103 rfl trivial ?_ rfl
  simp only [Tryz.ntmps103, List.size_toArray, List.length_cons, List.length_nil, Nat.reduceAdd, Nat.reduceSub, Array.replicate_succ, Array.replicate_zero, List.push_toArray, List.append_toArray, List.nil_append, List.cons_append]
  gi_wp2_with fail
  refine ⟨trivial, wide1, (callsIn_wide.2 (HC.out _ hW)).mono ?_⟩
  rintro e W1 ⟨rfl, hT⟩
  have h01 : J [] W1 := HJ.out _ _ _ _ h0 hT.grownNone (fun r e => by cases e)
  have HS1 : Hid (W.heap.size ≤ W1.heap.size) := hT.size
  have hb1 : W1.cell? ⟨B, 0, none⟩ = some (.string s) := (hT.cell (b := B) (Nat.lt_of_lt_of_le hbl hW.size) id 0).trans hb'
  have HY : Hid _ := hY
  clear hT hY
  cases hr : runesOf s.data.toList with
  | none =>
    have HE : Hid (rsOf s.data.toList = []) := rsOf_none hr
    clear hr
    simp only [Option.isSome_none]
    gi_wp2
    refine bodyPost_ret (results_none rfl _ _ _) rfl ?_
    exact ⟨⟨_, rfl⟩, .inl ⟨[], by rw [HE.out]; rfl, h01⟩⟩
  | some rs =>
    have HE : Hid (rsOf s.data.toList = rs) := rsOf_some hr
    have HR : Hid (runesOf s.data.toList = some rs) := hr
    clear hr
    simp only [Option.isSome_some]
    gi_wp2
    gi_loopw [3] (fun a wr => ∃ (pos : Nat) (done rest : List Nat), a = .int .i64 (done.length : Int) ∧ wr.heap[W1.heap.size]? = some (.stringIter s pos) ∧ pos ≤ s.size ∧ rs = done ++ rest ∧ runesOf (s.data.toList.drop pos) = some rest ∧ J (enumR 0 done) wr) (fun _ wr => s.size - wr.iterPos W1.heap.size)
    case atStart => exact ⟨0, [], rs, rfl, by have := World.iter_heap W1 s 0; simpa using this, Nat.zero_le _, rfl, by simpa using HR.out, HJ.out _ _ _ none h01 (World.grownBy_alloc W1 _ none) (fun r e => by cases e)⟩
    case round =>
      obtain ⟨pos, done, rest, rfl, hit, hpos, hrs, hrest, hJr⟩ := hrel
      have HRS : Hid (rs = done ++ rest) := hrs
      have HRest : Hid (runesOf (s.data.toList.drop pos) = some rest) := hrest
      have hsl : s.data.toList.length = s.size := by simp
      have hlen : rs.length ≤ s.size := by have := rsOf_len s.data.toList; rw [HE.out, hsl] at this; exact this
      have hdone : done.length + rest.length = rs.length := by rw [HRS.out, List.length_append]
      clear hrs hrest
      by_cases hp : pos < s.size
      · have hnx : ∀ ty, (Instr.next (.pointer (some ⟨W1.heap.size, 0, none⟩)) true ty).run Tryz.prog wr = _ := fun ty => Go.Lib.run_next_any_at wr W1.heap.size s pos ty hit hp
        have hit2 := Go.Lib.iterAt_heap wr W1.heap.size s pos (pos + (Utf8.decode s pos).2) hit
        have hne : s.data.toList.drop pos ≠ [] := by intro e; have := congrArg List.length e; rw [List.length_drop, hsl, List.length_nil] at this; omega
        have hst := HRest.out
        rw [runesOf_step hne] at hst
        by_cases hz : (nxt (s.data.toList.drop pos)).2 = 0
        · rw [if_pos hz] at hst; simp at hst
        rw [if_neg hz, (nxt_dec _ hz).1, Go.Lib.decodeL_drop, Option.map_eq_some_iff] at hst
        obtain ⟨rest', hr', he'⟩ := hst
        have hle := (nxt_le (s.data.toList.drop pos)).resolve_right hne
        rw [(nxt_dec _ hz).1, Go.Lib.decodeL_drop, List.length_drop, hsl] at hle
        rw [(nxt_dec _ hz).1, Go.Lib.decodeL_drop] at hz
        subst he'
        rw [List.drop_drop] at hr'
        have HR' : Hid (runesOf (s.data.toList.drop (pos + (Utf8.decode s pos).2)) = some rest') := hr'
        have hJ2 : J (enumR 0 done) (wr.iterAt W1.heap.size s (pos + (Utf8.decode s pos).2)) := HJ.out _ _ _ _ hJr (grown_iterAt _ _ _ _) (fun r e => by cases e; exact ⟨HS1.out, _, hit, rfl⟩)
        generalize hX : Utf8.decode s pos = X at *
        obtain ⟨r, k⟩ := X
        have HX : Hid (Utf8.decode s pos = (r, k)) := hX
        clear hX hr' hne
        simp only [List.length_cons] at *
        obtain ⟨fn, tmps, assign, body, hy, hR⟩ := HY.out (enumR 0 done) (done.length, r) (wr.iterAt W1.heap.size s (pos + k)) hJ2 (by rw [enumR_len, HE.out]; omega)
        have HY2 : Hid (enumR 0 done ++ [(done.length, r)] = enumR 0 (done ++ [r])) := (enumR_snoc done r).symm
        have HP : Hid (enumR 0 (done ++ [r]) <+: enumR 0 (rsOf s.data.toList)) := by
          rw [Hid, HE.out, HRS.out, show done ++ r :: rest' = (done ++ [r]) ++ rest' from by simp, enumR_append 0 (done ++ [r])]
          exact List.prefix_append _ _
        have HPos := iterPos_of hit
        have HPosH : Hid (wr.iterPos W1.heap.size = pos) := HPos
        clear HPos
        gi_wp2
        refine ⟨wide1, hR.mono ?_⟩
        rintro e W3 (⟨rfl, hJ3, hk3⟩ | ⟨rfl, hJx3⟩)
        · have hit3 := hk3.same _ _ hit2 rfl
          have hJ4 : J (enumR 0 (done ++ [r])) W3 := by rw [← HY2.out]; exact hJ3
          have hdl : (done ++ [r]).length = done.length + 1 := by simp
          have HDL : Hid ((done ++ [r]).length = done.length + 1) := hdl
          have HHit : Hid (W3.heap[W1.heap.size]? = some (Obj.stringIter s (pos + k))) := hit3
          clear hdl hk3 hJ3 hy hR hit3 hnx
          gi_wp2
          go_roundw
          case rel => exact ⟨pos + k, done ++ [r], rest', by rw [HDL.out]; go_num, HHit.out, by omega, by rw [HRS.out]; simp, HR'.out, hJ4⟩
          case measure => rw [iterPos_of HHit.out, HPosH.out]; omega
        · gi_wp2
          refine bodyPost_ret (results_none rfl _ _ _) rfl ?_
          exact ⟨⟨_, rfl⟩, .inr ⟨enumR 0 (done ++ [r]), HP.out, by rw [← HY2.out]; exact hJx3⟩⟩
      · have hnx : ∀ ty, (Instr.next (.pointer (some ⟨W1.heap.size, 0, none⟩)) true ty).run Tryz.prog wr = _ := fun ty => Go.Lib.run_next_end_at wr W1.heap.size s pos ty hit hp
        have HF : Hid (enumR 0 done = enumR 0 (rsOf s.data.toList)) := by
          have h1 := HRest.out
          rw [List.drop_eq_nil_of_le (by rw [hsl]; omega), runesOf_nil] at h1
          have h2 := HRS.out
          rw [← Option.some.inj h1, List.append_nil] at h2
          rw [Hid, HE.out, h2]
        gi_wp2
        go_end0
        exact ⟨⟨_, rfl⟩, .inl ⟨enumR 0 done, HF.out, hJr⟩⟩
end Go.Proofs.YtijkekkjiboomaaGreatDoor
