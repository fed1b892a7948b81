/- The library's contracts that value's functions call, laid at this program. -/
import Derived.Shelf.Strings.Repeat
import Derived.Test.YtijkekkjiboomaaGreatDoorProg
import Derived.Test.YtijkekkjiboomaaGreatDoorVxE
namespace Go.Proofs
open Go.Shelf
def Tryz.lays105_ren : Go.Shelf.Ren := ⟨fun | 105 => 60 | 212 => 80 | 99 => 81 | 165 => 82 | 166 => 40 | 170 => 83 | 169 => 37 | 263 => 99 | 264 => 100 | 206 => 101 | 240 => 61 | 241 => 102 | 276 => 84 | 277 => 113 | n => n, fun | 9 => 9 | 3 => 3 | 4 => 4 | 20 => 20 | 0 => 0 | 46 => 105 | 109 => 106 | 5 => 5 | 72 => 60 | 76 => 68 | 51 => 113 | 146 => 129 | 53 => 83 | 148 => 131 | 70 => 57 | 37 => 58 | 75 => 67 | 127 => 88 | 164 => 111 | 80 => 65 | n => n, fun | n => n⟩
theorem Tryz.lays105 : Go.Proofs.Lays.n105 Tryz.prog Tryz.lays105_ren := {
  mixed := by kernel_rfl
  f99 := Tryz.func81.trans (congrArg some (by kernel_rfl))
  f105 := Tryz.func60.trans (congrArg some (by kernel_rfl))
  f165 := Tryz.func82.trans (congrArg some (by kernel_rfl))
  f166 := Tryz.func40.trans (congrArg some (by kernel_rfl))
  f169 := Tryz.func37.trans (congrArg some (by kernel_rfl))
  f170 := Tryz.func83.trans (congrArg some (by kernel_rfl))
  f206 := Tryz.func101.trans (congrArg some (by kernel_rfl))
  f212 := Tryz.func80.trans (congrArg some (by kernel_rfl))
  f240 := Tryz.func61.trans (congrArg some (by kernel_rfl))
  f241 := Tryz.func102.trans (congrArg some (by kernel_rfl))
  f263 := Tryz.func99.trans (congrArg some (by kernel_rfl))
  f264 := Tryz.func100.trans (congrArg some (by kernel_rfl))
  f276 := Tryz.func84.trans (congrArg some (by kernel_rfl))
  f277 := Tryz.func113.trans (congrArg some (by kernel_rfl))
  t0 := Tryz.underlying0
  a0 := Tryz.isAgg0
  z0 := Tryz.sizeOf0
  v0 := Tryz.zeroValue0
  t3 := Tryz.underlying3
  a3 := Tryz.isAgg3
  z3 := Tryz.sizeOf3
  v3 := Tryz.zeroValue3
  t4 := Tryz.underlying4
  a4 := Tryz.isAgg4
  z4 := Tryz.sizeOf4
  v4 := Tryz.zeroValue4
  t5 := Tryz.underlying5
  a5 := Tryz.isAgg5
  z5 := Tryz.sizeOf5
  v5 := Tryz.zeroValue5
  t9 := Tryz.underlying9
  a9 := Tryz.isAgg9
  z9 := Tryz.sizeOf9
  v9 := Tryz.zeroValue9
  t20 := Tryz.underlying20
  a20 := Tryz.isAgg20
  z20 := Tryz.sizeOf20
  v20 := Tryz.zeroValue20
  t37 := Tryz.underlying58
  a37 := Tryz.isAgg58
  z37 := Tryz.sizeOf58
  v37 := Tryz.zeroValue58
  t46 := Tryz.underlying105
  a46 := Tryz.isAgg105
  z46 := Tryz.sizeOf105
  v46 := Tryz.zeroValue105
  t51 := Tryz.underlying113
  a51 := Tryz.isAgg113
  z51 := Tryz.sizeOf113
  v51 := Tryz.zeroValue113
  t53 := Tryz.underlying83
  a53 := Tryz.isAgg83
  z53 := Tryz.sizeOf83
  v53 := Tryz.zeroValue83
  t70 := Tryz.underlying57
  a70 := Tryz.isAgg57
  z70 := Tryz.sizeOf57
  v70 := Tryz.zeroValue57
  t72 := Tryz.underlying60
  a72 := Tryz.isAgg60
  z72 := Tryz.sizeOf60
  v72 := Tryz.zeroValue60
  t75 := Tryz.underlying67
  a75 := Tryz.isAgg67
  z75 := Tryz.sizeOf67
  v75 := Tryz.zeroValue67
  t76 := Tryz.underlying68
  a76 := Tryz.isAgg68
  z76 := Tryz.sizeOf68
  v76 := Tryz.zeroValue68
  t109 := Tryz.underlying106
  a109 := Tryz.isAgg106
  z109 := Tryz.sizeOf106
  v109 := Tryz.zeroValue106
  t127 := Tryz.underlying88
  a127 := Tryz.isAgg88
  z127 := Tryz.sizeOf88
  v127 := Tryz.zeroValue88
  t146 := Tryz.underlying129
  a146 := Tryz.isAgg129
  z146 := Tryz.sizeOf129
  v146 := Tryz.zeroValue129
  t148 := Tryz.underlying131
  a148 := Tryz.isAgg131
  z148 := Tryz.sizeOf131
  v148 := Tryz.zeroValue131
  t164 := Tryz.underlying111
  a164 := Tryz.isAgg111
  z164 := Tryz.sizeOf111
  v164 := Tryz.zeroValue111 }
theorem Tryz.Builder_Extra_105 : Builder.Extra Tryz.prog Tryz.lays105_ren := {
  sizeBuilder := by kernel_rfl
  liesBuilder := by kernel_rfl
  t5 := Tryz.underlying5
  a5 := Tryz.isAgg5
  z5 := Tryz.sizeOf5
  v5 := Tryz.zeroValue5
  infoByte := by kernel_rfl
  cellsByte := by kernel_rfl
  sizeByte := by kernel_rfl
  neB5 := by decide }
open Go.RowKit Go.Lib in
theorem Tryz.strings_Repeat (s : ByteArray) (c : Nat) (w : World) (hc : c ≤ 9223372036854775807) (hlen : s.size * c ≤ 140737488355328) :
    Calls Tryz.prog 60 #[.string s, .int .i64 c] w fun e w' => e = .returned (.string ⟨(Lib.repeatL s.data.toList c).toArray⟩) ∧ Below w.heap.size w w' := Any.strings_Repeat Tryz.lays105 Tryz.Builder_Extra_105 s c w hc hlen
end Go.Proofs

/- Views: entries in memory; tellEntries. -/
namespace Go.Proofs.YtijkekkjiboomaaGreatDoor
open Go.RowKit Go.Maps
set_option linter.unusedVariables false
set_option linter.unusedSimpArgs false
set_option maxRecDepth 100000

def cellE (e : En) : List Value := [.string e.ky, .int .i64 e.v.k, .int .i64 e.v.n, .float .f64 e.v.f, .string e.v.s, .slice e.raw.a e.raw.n e.raw.c]
def cellsE (l : List En) : List Value := l.flatMap cellE
theorem cellsE_cons (e : En) (l : List En) : cellsE (e :: l) = .string e.ky :: .int .i64 e.v.k :: .int .i64 e.v.n :: .float .f64 e.v.f :: .string e.v.s :: .slice e.raw.a e.raw.n e.raw.c :: cellsE l := rfl
theorem cellsE_len (l : List En) : (cellsE l).length = l.length * 6 := by
  induction l with
  | nil => rfl
  | cons f r ih => rw [cellsE_cons]; simp only [List.length_cons, ih]; omega
theorem cellsE_get : ∀ (l : List En) (j : Nat) (h : j < l.length), (cellsE l)[j * 6]? = some (.string l[j].ky) ∧ (cellsE l)[j * 6 + 1]? = some (.int .i64 l[j].v.k) ∧ (cellsE l)[j * 6 + 2]? = some (.int .i64 l[j].v.n) ∧ (cellsE l)[j * 6 + 3]? = some (.float .f64 l[j].v.f) ∧ (cellsE l)[j * 6 + 4]? = some (.string l[j].v.s) ∧ (cellsE l)[j * 6 + 5]? = some (.slice l[j].raw.a l[j].raw.n l[j].raw.c)
  | f :: r, 0, _ => ⟨rfl, rfl, rfl, rfl, rfl, rfl⟩
  | f :: r, j + 1, h => by
    have ih := cellsE_get r j (by simpa using h)
    rw [cellsE_cons, show (j + 1) * 6 = j * 6 + 6 from by omega]
    exact ih
abbrev enO (e : En) : Obj := .cells #[.string e.ky, .int .i64 e.v.k, .int .i64 e.v.n, .float .f64 e.v.f, .string e.v.s, .slice e.raw.a e.raw.n e.raw.c] 50
def LiesE (w : World) (ao : Option Addr) (l : List En) : Prop := l = [] ∨ ∃ b o, ao = some ⟨b, o, none⟩ ∧ ∀ j u, (cellsE l)[j]? = some u → w.cell? ⟨b, o + j, none⟩ = some u
theorem LiesE.touch {W W' : World} {ao : Option Addr} {b : List En} (h : LiesE W ao b) (t : Touch (fun _ => False) W W') : LiesE W' ao b := by
  rcases h with h | ⟨b, o, e, h⟩
  · exact .inl h
  · refine .inr ⟨b, o, e, fun j u hu => ?_⟩
    have := h j u hu
    rw [World.cell?_of_block (t.block _ (World.block_lt_of_cell? _ _ this) id)]; exact this
def SlE (w : World) (v : Value) (l : List En) : Prop := ∃ ao cap, v = .slice ao l.length cap ∧ (ao = none → cap = 0) ∧ l.length ≤ cap ∧ cap ≤ 9223372036854775807 ∧ LiesE w ao l
theorem SlE.touch {W W' : World} {v : Value} {l : List En} (h : SlE W v l) (t : Touch (fun _ => False) W W') : SlE W' v l := by
  obtain ⟨ao, cap, e, h1, h2, h3, h4⟩ := h
  exact ⟨ao, cap, e, h1, h2, h3, h4.touch t⟩
theorem SlE.shape {w : World} {v : Value} {l : List En} (h : SlE w v l) : ∃ ao cap, v = .slice ao l.length cap ∧ l.length ≤ 9223372036854775807 := by
  obtain ⟨ao, cap, e, h1, h2, h3, h4⟩ := h
  exact ⟨ao, cap, e, by omega⟩
theorem SlE.at {w : World} {ao : Option Addr} {n cap : Nat} {l : List En} (h : SlE w (.slice ao n cap) l) {i : Nat} (hi : i < l.length) : ∃ b o, ao = some ⟨b, o, none⟩ ∧ ∀ W, Touch (fun _ => False) w W → (W.cell? ⟨b, o + i * 6, none⟩ = some (.string l[i].ky) ∧ W.cell? ⟨b, o + i * 6 + 1, none⟩ = some (.int .i64 l[i].v.k) ∧ W.cell? ⟨b, o + i * 6 + 2, none⟩ = some (.int .i64 l[i].v.n) ∧ W.cell? ⟨b, o + i * 6 + 3, none⟩ = some (.float .f64 l[i].v.f) ∧ W.cell? ⟨b, o + i * 6 + 4, none⟩ = some (.string l[i].v.s) ∧ W.cell? ⟨b, o + i * 6 + 5, none⟩ = some (.slice l[i].raw.a l[i].raw.n l[i].raw.c)) := by
  obtain ⟨ao', cap', e, h1, h2, h3, h4⟩ := h
  simp only [Value.slice.injEq] at e
  obtain ⟨rfl, -, -⟩ := e
  rcases h4 with h4 | ⟨b, o, rfl, hc⟩
  · subst h4; simp at hi
  · refine ⟨b, o, rfl, fun W t => ?_⟩
    have hW : ∀ j u, (cellsE l)[j]? = some u → W.cell? ⟨b, o + j, none⟩ = some u := fun j u hu => by
      have := hc j u hu
      rw [World.cell?_of_block (t.block _ (World.block_lt_of_cell? _ _ this) id)]; exact this
    obtain ⟨a0, a1, a2, a3, a4, a5⟩ := cellsE_get l i hi
    exact ⟨hW _ _ a0, hW _ _ a1, hW _ _ a2, hW _ _ a3, hW _ _ a4, hW _ _ a5⟩
theorem enO_cells {W : World} {m : Nat} {e : En} (h : W.heap[m]? = some (enO e)) : W.cell? ⟨m, 0, none⟩ = some (.string e.ky) ∧ W.cell? ⟨m, 1, none⟩ = some (.int .i64 e.v.k) ∧ W.cell? ⟨m, 2, none⟩ = some (.int .i64 e.v.n) ∧ W.cell? ⟨m, 3, none⟩ = some (.float .f64 e.v.f) ∧ W.cell? ⟨m, 4, none⟩ = some (.string e.v.s) ∧ W.cell? ⟨m, 5, none⟩ = some (.slice e.raw.a e.raw.n e.raw.c) :=
  ⟨by rw [cell_of_block h]; rfl, by rw [cell_of_block h]; rfl, by rw [cell_of_block h]; rfl, by rw [cell_of_block h]; rfl, by rw [cell_of_block h]; rfl, by rw [cell_of_block h]; rfl⟩
/-- The entries l, down to a depth below h, lie in w as v, and can be told. -/
def GoodL (w : World) : Nat → Value → List En → Prop
  | 0, v, l => SlE w v l ∧ l = []
  | h + 1, v, l => SlE w v l ∧ ∀ e ∈ l, V.taken e.v ∧ e.v.s.size ≤ 1048576 ∧ e.ky.size ≤ 1048576 ∧ GoodL w h e.raw.val e.kids
theorem GoodL.sl {w : World} {h : Nat} {v : Value} {l : List En} (g : GoodL w h v l) : SlE w v l := by
  cases h with
  | zero => exact g.1
  | succ h => exact g.1
theorem GoodL.touch {w w' : World} (t : Touch (fun _ => False) w w') : ∀ {h : Nat} {v : Value} {l : List En}, GoodL w h v l → GoodL w' h v l
  | 0, v, l, g => ⟨g.1.touch t, g.2⟩
  | h + 1, v, l, g => ⟨g.1.touch t, fun e he => ⟨(g.2 e he).1, (g.2 e he).2.1, (g.2 e he).2.2.1, (g.2 e he).2.2.2.touch t⟩⟩
theorem Touch.onto {w0 W w' : World} {B : Nat} (t : Touch (fun _ => False) w0 W) (hB : w0.heap.size ≤ B) (k : Below B W w') : Touch (fun _ => False) w0 w' :=
  ⟨k.os.trans t.os, k.tape.trans t.tape, k.output.trans t.output, Nat.le_trans t.size k.size, fun i hi _ => (k.block i (by omega)).trans (t.block i hi id)⟩
theorem repeat_inset (d : Nat) : Go.Lib.repeatL (ByteArray.mk #[32, 32]).data.toList d = insetT d := by
  have h := Go.Lib.repeatL_replicate 32 2 d
  unfold insetT
  rw [Nat.mul_comm]
  exact h
theorem insetT_len (d : Nat) : (insetT d).length = 2 * d := by unfold insetT; simp
def lineP (d : Nat) (k : ByteArray) (v : V) : List ByteArray := [⟨(insetT d).toArray⟩, ⟨#[109, 32]⟩, ⟨(qL k).toArray⟩, ⟨#[61]⟩, ⟨(textL v).toArray⟩]
theorem joinZ_lineP (d : Nat) (k : ByteArray) (v : V) : joinZ (lineP d k v) = entT d k v := by
  unfold lineP entT
  rw [joinZ_cons, joinZ_cons, joinZ_cons, joinZ_cons, joinZ_cons, joinZ_nil, bytesT, bytesT, bytesT, List.append_nil]
  generalize insetT d = a
  generalize qL k = b
  generalize textL v = c
  rw [List.append_assoc, List.append_assoc]
  rfl
theorem ensT_take {d : Nat} {l : List En} {i : Nat} (h : i < l.length) : ensT d (l.take (i + 1)) = ensT d (l.take i) ++ enT d l[i] := by
  rw [ensT_flat, ensT_flat, List.take_succ_eq_append_getElem h, List.flatMap_append, List.flatMap_cons, List.flatMap_nil, List.append_nil]
theorem ensT_take_le (d : Nat) (l : List En) (i : Nat) : (ensT d (l.take i)).length ≤ (ensT d l).length := by
  have e : l = l.take i ++ l.drop i := (List.take_append_drop i l).symm
  conv => rhs; rw [e]
  rw [ensT_flat, ensT_flat, List.flatMap_append, List.length_append]; omega
theorem tellLine_lit {U : World} {B b : Nat} {by0 : List UInt8} (w0 : World) (hB0 : w0.heap.size ≤ B) (tU : Touch (fun _ => False) w0 U) (hb : BldF B b by0 U) (hBw : B ≤ U.heap.size) (d : Nat) (k : ByteArray) (v : V) (hs : by0.length + (entT d k v).length + 1 ≤ 140737488355328) {bx : Nat} {e : En} (hx : U.heap[bx]? = some (enO e)) :
    ∀ W, Touch (fun _ => False) U W → Calls Tryz.prog 34 #[.pointer (some ⟨b, 0, none⟩), .slice (some ⟨W.heap.size, 0, none⟩) 5 5] (W.alloc (.cells #[.string ⟨(insetT d).toArray⟩, .string ⟨#[109, 32]⟩, .string ⟨(qL k).toArray⟩, .string ⟨#[61]⟩, .string ⟨(textL v).toArray⟩] 9)) fun e' w' => e' = .returned (.tuple #[]) ∧ Hid (BldF B b (by0 ++ entT d k v ++ [10]) w' ∧ Touch (fun _ => False) w0 w' ∧ w'.heap[bx]? = some (enO e)) := by
  intro W t
  have t2 : Touch (fun _ => False) U (W.alloc (.cells #[.string ⟨(insetT d).toArray⟩, .string ⟨#[109, 32]⟩, .string ⟨(qL k).toArray⟩, .string ⟨#[61]⟩, .string ⟨(textL v).toArray⟩] 9)) := t.alloc _
  have hN : NewZ U (W.alloc (.cells #[.string ⟨(insetT d).toArray⟩, .string ⟨#[109, 32]⟩, .string ⟨(qL k).toArray⟩, .string ⟨#[61]⟩, .string ⟨(textL v).toArray⟩] 9)) (.slice (some ⟨W.heap.size, 0, none⟩) 5 5) (lineP d k v) := NewZ.lit t (lineP d k v) (by show 5 ≤ 1048576; omega)
  have hb2 := hb.touch t2
  refine (tellLine_any hb2 hN.sl (by rw [joinZ_lineP]; exact hs) (Nat.le_trans hBw t2.size)).mono ?_
  rintro e' w' ⟨q1, q2, q3⟩
  rw [joinZ_lineP] at q2
  refine ⟨q1, q2, (tU.trans t2).onto hB0 q3.below, ?_⟩
  exact keepB_cells (by decide) (by decide) (hkY t2 hx) hb2 q3
theorem BldF.le {B b : Nat} {l : List UInt8} {w : World} (h : BldF B b l w) : B ≤ w.heap.size := by
  obtain ⟨p, v, hb⟩ := h.block
  have := lt_of_heap hb
  rcases h with h | h
  · have := h.1; omega
  · have := h.1; omega
set_option maxHeartbeats 16000000 in
theorem tellEntries_any {w0 : World} (hT : TabsI w0) {B b : Nat} (hB0 : w0.heap.size ≤ B) : ∀ (h : Nat) (l : List En) (v : Value) (d : Nat) (by0 : List UInt8) (w : World), GoodL w0 h v l → d + h ≤ 1000000 → Touch (fun _ => False) w0 w → BldF B b by0 w → B ≤ w.heap.size → by0.length + (ensT d l).length + 1 ≤ 140737488355328 →
    Calls Tryz.prog 36 #[.pointer (some ⟨b, 0, none⟩), v, .int .i64 (d : Int)] w fun e w' => e = .returned (.tuple #[]) ∧ BldF B b (by0 ++ ensT d l) w' ∧ Touch (fun _ => False) w0 w' := by
  intro h
  induction h with
  | zero =>
    intro l v d by0 w g hd t hb hBw hs
    obtain ⟨hsl, rfl⟩ := g
    obtain ⟨ao, cap, rfl, -⟩ := hsl.shape
    have HQ : Hid (BldF B b (by0 ++ ensT d []) w ∧ Touch (fun _ => False) w0 w) := ⟨by show BldF B b (by0 ++ []) w; rw [List.append_nil]; exact hb, t⟩
    clear hsl t hb hs hT
    go_enter Tryz.func36, Tryz.ntmps36
    have e0 : (([] : List En).length : Int) = 0 := rfl
    go_wp2_with fail
    go_loopg [10] 0 (fun gk s10 wr => s10 = .int .i64 0 ∧ Hid (BldF B b (by0 ++ ensT d []) wr ∧ Touch (fun _ => False) w0 wr))
    case atStart => exact ⟨rfl, HQ.out⟩
    case round =>
      obtain ⟨rfl, HI⟩ := hrel
      go_wp2_with fail
      go_end0
      exact ⟨rfl, HI.out⟩
  | succ h ih =>
    intro l v d by0 w g hd t hb hBw hs
    obtain ⟨hsl, hg⟩ := g
    obtain ⟨ao, cap, rfl, hll⟩ := hsl.shape
    have HA : Hid (SlE w0 (.slice ao l.length cap) l) := hsl
    have HG : Hid (∀ e ∈ l, V.taken e.v ∧ e.v.s.size ≤ 1048576 ∧ e.ky.size ≤ 1048576 ∧ GoodL w0 h e.raw.val e.kids) := hg
    have HT0 : Hid (TabsI w0) := hT
    have HS : Hid (by0.length + (ensT d l).length + 1 ≤ 140737488355328) := hs
    have HIH : Hid (∀ (l : List En) (v : Value) (d : Nat) (by0 : List UInt8) (w : World), GoodL w0 h v l → d + h ≤ 1000000 → Touch (fun _ => False) w0 w → BldF B b by0 w → B ≤ w.heap.size → by0.length + (ensT d l).length + 1 ≤ 140737488355328 → Calls Tryz.prog 36 #[.pointer (some ⟨b, 0, none⟩), v, .int .i64 (d : Int)] w fun e w' => e = .returned (.tuple #[]) ∧ BldF B b (by0 ++ ensT d l) w' ∧ Touch (fun _ => False) w0 w') := ih
    have HQ : Hid (BldF B b (by0 ++ ensT d (l.take 0)) w ∧ Touch (fun _ => False) w0 w ∧ B ≤ w.heap.size) := ⟨by show BldF B b (by0 ++ []) w; rw [List.append_nil]; exact hb, t, hBw⟩
    clear hsl t hb hs hT hg ih hBw
    have hst := run_store_f64 Tryz.prog
    go_enter Tryz.func36, Tryz.ntmps36
    go_wp2_with fail
    go_loopg [10] l.length (fun gk s10 wr => ∃ i : Nat, i + gk = l.length ∧ s10 = .int .i64 (i : Int) ∧ Hid (BldF B b (by0 ++ ensT d (l.take i)) wr ∧ Touch (fun _ => False) w0 wr ∧ B ≤ wr.heap.size))
    case atStart => exact ⟨0, by omega, rfl, HQ.out⟩
    case round =>
      obtain ⟨i, hig, rfl, HI⟩ := hrel
      by_cases hil : i < l.length
      · obtain ⟨g, o, rfl, hca⟩ := HA.out.at hil
        obtain ⟨x0, x1, x2, x3, x4, x5⟩ := hca wr HI.out.2.1
        have hi1 : (0 : Int) ≤ (i : Int) := by omega
        have hi2 : (i : Int) < (l.length : Int) := by omega
        obtain ⟨g1, g2, g3, g4⟩ := HG.out _ (List.getElem_mem hil)
        have HJ : Hid (by0 ++ ensT d (l.take (i + 1)) = by0 ++ ensT d (l.take i) ++ entT d l[i].ky l[i].v ++ [10] ++ ensT (d + 1) l[i].kids) := by
          show _ = _
          rw [ensT_take hil, enT_eq]; simp only [List.append_assoc]
        have hlen : (by0 ++ ensT d (l.take i)).length + (entT d l[i].ky l[i].v).length + 1 + (ensT (d + 1) l[i].kids).length + 1 ≤ 140737488355328 := by
          have h1 := congrArg List.length HJ.out
          have h2 := ensT_take_le d l (i + 1)
          have h3 := HS.out
          rw [List.length_append, List.length_append, List.length_append, List.length_append] at h1
          have h4 : ([10] : List UInt8).length = 1 := rfl
          omega
        obtain ⟨U, hU⟩ : ∃ U, Hid (U = wr.alloc (enO l[i])) := ⟨wr.alloc (enO l[i]), Eq.refl _⟩
        have hbx := heap_alloc_new wr (enO l[i])
        have tU : Touch (fun _ => False) wr U := by rw [hU.out]; exact (Touch.refl _ _).alloc _
        rw [← hU.out] at hbx
        have HK : Hid (∀ W, Touch (fun _ => False) U W → (W.cell? ⟨wr.heap.size, 0, none⟩ = some (.string l[i].ky) ∧ W.cell? ⟨wr.heap.size, 1, none⟩ = some (.int .i64 l[i].v.k) ∧ W.cell? ⟨wr.heap.size, 2, none⟩ = some (.int .i64 l[i].v.n) ∧ W.cell? ⟨wr.heap.size, 3, none⟩ = some (.float .f64 l[i].v.f) ∧ W.cell? ⟨wr.heap.size, 4, none⟩ = some (.string l[i].v.s))) := fun W t => by
          obtain ⟨a, b, c, d, e, -⟩ := enO_cells (hkY t hbx)
          exact ⟨a, b, c, d, e⟩
        have HR : Hid (∀ W, Calls Tryz.prog 60 #[.string ⟨#[32, 32]⟩, .int .i64 (d : Int)] W fun e w' => e = .returned (.string ⟨(insetT d).toArray⟩) ∧ Touch (fun _ => False) W w') := fun W => (Tryz.strings_Repeat ⟨#[32, 32]⟩ d W (by omega) (by show 2 * d ≤ _; omega)).mono fun e w' ⟨q1, q2⟩ => ⟨by rw [q1, repeat_inset], below_touch q2⟩
        have HCi : Hid (∀ W, Calls Tryz.prog 58 #[.string l[i].ky] W fun e w' => e = .returned (.string ⟨(qL l[i].ky).toArray⟩) ∧ Touch (fun _ => False) W w') := fun W => textOf_any _ (by omega) W
        have HCj : Hid (∀ W, Touch (fun _ => False) U W → Calls Tryz.prog 59 #[.agg #[.int .i64 l[i].v.k, .int .i64 l[i].v.n, .float .f64 l[i].v.f, .string l[i].v.s]] W fun e w' => e = .returned (.string ⟨(textL l[i].v).toArray⟩) ∧ Touch (fun _ => False) W w') := fun W t => v_text l[i].v g1 (by omega) W (HT0.out.keep ((HI.out.2.1.trans tU).trans t))
        have HTL : Hid (∀ W, Touch (fun _ => False) U W → Calls Tryz.prog 34 #[.pointer (some ⟨b, 0, none⟩), .slice (some ⟨W.heap.size, 0, none⟩) 5 5] (W.alloc (.cells #[.string ⟨(insetT d).toArray⟩, .string ⟨#[109, 32]⟩, .string ⟨(qL l[i].ky).toArray⟩, .string ⟨#[61]⟩, .string ⟨(textL l[i].v).toArray⟩] 9)) fun e' w' => e' = .returned (.tuple #[]) ∧ Hid (BldF B b (by0 ++ ensT d (l.take i) ++ entT d l[i].ky l[i].v ++ [10]) w' ∧ Touch (fun _ => False) w0 w' ∧ w'.heap[wr.heap.size]? = some (enO l[i]))) := tellLine_lit w0 hB0 (HI.out.2.1.trans tU) (HI.out.1.touch tU) (Nat.le_trans HI.out.2.2 tU.size) d _ _ (by omega) hbx
        have HRec : Hid (∀ W, BldF B b (by0 ++ ensT d (l.take i) ++ entT d l[i].ky l[i].v ++ [10]) W → Touch (fun _ => False) w0 W → B ≤ W.heap.size → Calls Tryz.prog 36 #[.pointer (some ⟨b, 0, none⟩), l[i].raw.val, .int .i64 ((d + 1 : Nat) : Int)] W fun e w' => e = .returned (.tuple #[]) ∧ BldF B b (by0 ++ ensT d (l.take (i + 1))) w' ∧ Touch (fun _ => False) w0 w') := fun W q1 q2 q3 => by
          have h1 := HIH.out l[i].kids l[i].raw.val (d + 1) _ W g4 (by omega) q2 q1 q3 (by rw [List.length_append, List.length_append]; have h4 : ([10] : List UInt8).length = 1 := rfl; omega)
          rw [HJ.out]
          exact h1
        have HBw : Hid (B ≤ wr.heap.size ∧ wr.heap.size ≤ U.heap.size) := ⟨HI.out.2.2, tU.size⟩
        clear hca HA HG HI HJ hlen g1 g2 g3 g4 tU HIH HS HT0 hbx
        generalize l[i] = a at *
        obtain ⟨ky, ⟨vk', vn', vf', vs'⟩, ⟨ra, rn, rc⟩, kids⟩ := a
        simp only [En.ky, En.v, En.raw, En.kids] at x0 x1 x2 x3 x4 x5 HK HCi HCj HTL HRec hU
        generalize ByteArray.mk (qL ky).toArray = qk at *
        generalize ByteArray.mk (textL (V.mk vk' vn' vf' vs')).toArray = qm at *
        generalize ByteArray.mk (insetT d).toArray = qi at *
        have hw1 : IntKind.i64.wrap ((d : Int) + 1) = ((d + 1 : Nat) : Int) := by rw [IntKind.wrap_i64]; omega
        have hU2 : Hid (U = wr.alloc (.cells #[.string ky, .int .i64 vk', .int .i64 vn', .float .f64 vf', .string vs', .slice ra rn rc] 50)) := hU
        clear hU
        go_upto_region 3 with fail
        rw [← hU2.out]
        clear hU2 x0 x1 x2 x3 x4 x5
        generalize wr.heap.size = bx at *
        have TD : Touch (fun _ => False) U U.drew := (Touch.refl _ U).drew
        have S0 := HK.out _ TD
        go_region_held3 (fun W => W.cell? ⟨bx, 0, none⟩ = some (.string ky) ∧ W.cell? ⟨bx, 1, none⟩ = some (.int .i64 vk') ∧ W.cell? ⟨bx, 2, none⟩ = some (.int .i64 vn') ∧ W.cell? ⟨bx, 3, none⟩ = some (.float .f64 vf') ∧ W.cell? ⟨bx, 4, none⟩ = some (.string vs')) (first | assumption | exact HK.out _ (Touch.alloc (by assumption) _))
          (first
            | (go_at_call 60; (with_reducible refine (HR.out _).mono ?_); rintro e w1 ⟨rfl, t1⟩; have TT := Touch.trans (by assumption) t1; have S1 := HK.out w1 TT; clear t1)
            | (go_at_call 58; (with_reducible refine (HCi.out _).mono ?_); rintro e w1 ⟨rfl, t1⟩; have TT := Touch.trans (by assumption) t1; have S1 := HK.out w1 TT; clear t1)
            | (go_at_call 59; (with_reducible refine (HCj.out _ (by assumption)).mono ?_); rintro e w1 ⟨rfl, t1⟩; have TT := Touch.trans (by assumption) t1; have S1 := HK.out w1 TT; clear t1)
            | (go_at_call 34; (with_reducible refine (HTL.out _ (by assumption)).mono ?_); rintro e w1 ⟨rfl, HQ9⟩; obtain ⟨s0, s1, s2, s3, s4, s5⟩ := enO_cells HQ9.out.2.2; have S5 := And.intro s0 (And.intro s1 (And.intro s2 (And.intro s3 s4)))))
        all_goals clear S0 S1 S5 HK HCi HCj HR HTL TD TT s0 s1 s2 s3 s4
        all_goals (have hw2 : ((d + 1 : Nat) : Int) = (d : Int) + 1 := by omega)
        all_goals simp only [En.raw] at s5
        all_goals go_wp2_with fail
        all_goals (refine (HRec.out _ HQ9.out.1 HQ9.out.2.1 (BldF.le HQ9.out.1)).mono ?_)
        all_goals (rintro e W2 ⟨rfl, q1, q2⟩; have HF : Hid (BldF B b (by0 ++ ensT d (l.take (i + 1))) W2 ∧ Touch (fun _ => False) w0 W2 ∧ B ≤ W2.heap.size) := ⟨q1, q2, BldF.le q1⟩; clear q1 q2 HRec HQ9 s5)
        all_goals go_wp2_with fail
        all_goals (go_roundg (l.length - (i + 1)))
        all_goals (first | (case measure => omega) | skip)
        all_goals exact ⟨i + 1, by omega, by go_num, HF.out⟩
      · have : i = l.length := by omega
        subst this
        have HE : Hid (BldF B b (by0 ++ ensT d l) wr ∧ Touch (fun _ => False) w0 wr) := by
          have k := HI.out
          rw [List.take_length] at k
          exact ⟨k.1, k.2.1⟩
        clear HI HA HG HIH HS HT0
        go_wp2_with fail
        go_end0
        exact ⟨rfl, HE.out⟩
end Go.Proofs.YtijkekkjiboomaaGreatDoor
