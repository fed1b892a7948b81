/- Floats stored and added; a sum as the document has it. It speaks of no function. -/
import Derived.Test.YtnilikomoapcaaaGreatPart18
import Derived.Laws.FloatArith
import Derived.Test.YtnilikomoapcaaaGreatPart26
import Derived.Test.YtnilikomoapcaaaGreatPart20
import Derived.Test.YtnilikomoapcaaaGreatPart9
import Derived.Deep.RegionWith
import Derived.Shelf.SlIter.Nil
import Derived.Shelf.SortM.Plain
import Derived.Shelf.SortM.SortNone
import Derived.Ground.GgzProg
import Derived.Ground.SlgmProg
import Derived.Test.YtnilikomoapcaaaGreatProg
namespace Go.Proofs.YtnilikomoapcaaaGreat
open Go.RowKit
set_option linter.unusedVariables false

/-- A float is stored (a law of the walk that the library has for the other kinds). -/
theorem run_store_f64 (P : Program) (w : World) (a : Addr) (m : Mode) (b : Nat) : (store a (.float .f64 b) m).run P w = stored P w a (.float .f64 b) m := run_store P w a _ m rfl

def refClean (v : V) : V := if v.k = 3 then ⟨v.k, v.n, refBits v.f, v.s⟩ else v

def isNum (v : V) : Bool := v.k == 2 || v.k == 3

/-- The float that a number stands for; the sum of two. -/
def vFloat (v : V) : Nat := if v.k == 2 then floatOfInt .f64 v.n else v.f
def sumBits (x y : Nat) : Nat := match Ieee.double.add x y with
  | some r => refBits r
  | none => nanBits
def refAdd (a b : V) : V := if isNum a && isNum b then (if a.k == 2 && b.k == 2 then ⟨2, wrap64 (a.n + b.n), 0, .empty⟩ else ⟨3, 0, sumBits (vFloat a) (vFloat b), .empty⟩) else ⟨0, 0, 0, .empty⟩

/-- x + y of floats: the bits (drawn, where it is no number), and how much is drawn. -/
def addR (x y : Nat) (w : World) : Nat := match Ieee.double.add x y with
  | some r => r
  | none => Question.cut (.nanBits .f64 x y) (w.tape w.drawn (.nanBits .f64 x y))
def addN (x y : Nat) : Nat := match Ieee.double.add x y with
  | some _ => 0
  | none => 1
theorem addR_bits (x y : Nat) (w : World) : refBits (addR x y w) = sumBits x y := by
  unfold addR sumBits
  cases h : Ieee.double.add x y with
  | some r => rfl
  | none =>
    have : isNaN (Question.cut (.nanBits .f64 x y) (w.tape w.drawn (.nanBits .f64 x y))) = true := by
      simp only [Question.cut, isNaN, rung, fS, fI]
      generalize w.tape w.drawn (.nanBits .f64 x y) = t
      refine decide_eq_true ?_
      rcases Nat.mod_two_eq_zero_or_one t with e | e <;> rw [e] <;> omega
    simp only [refBits, this, if_true]
theorem run_add_f64 (P : Program) (x y : Nat) (t : TypeId) (w : World) : (binOp .add t (.float .f64 x) (.float .f64 y)).run P w = .ok (.float .f64 (addR x y w)) (w.drewN (addN x y)) := by
  unfold addR addN
  cases h : Ieee.double.add x y with
  | some r => exact run_float_arith w .add t .f64 x y r h
  | none =>
    simp [binOp, Op.floatArith, FloatKind.format, h, Question.forced]
    rfl
end Go.Proofs.YtnilikomoapcaaaGreat

/- The contracts of value's empty, asFloat. -/
namespace Go.Proofs.YtnilikomoapcaaaGreat
open Go.RowKit
set_option linter.unusedVariables false
set_option maxRecDepth 100000

/-- Nothing but a kind. -/
def vEmpty (v : V) : Bool := (v.n == 0) && ((v.f : Int) == 0) && v.s.toList.isEmpty
/-- The number as a float, and whether it is one. -/
def vNum (v : V) : Nat := if isNum v then vFloat v else 0
end Go.Proofs.YtnilikomoapcaaaGreat

/- The contract of value.Clean. -/
namespace Go.Proofs.YtnilikomoapcaaaGreat
open Go.RowKit
set_option linter.unusedVariables false
set_option maxRecDepth 100000

/-- A NaN's bits are the one NaN's, whatever the kind. -/
def vClean (v : V) : V := ⟨v.k, v.n, refBits v.f, v.s⟩
set_option maxHeartbeats 400000 in
theorem v_clean (v : V) (w : World) : Calls Tryz.prog 68 #[v.val] w fun e w' => e = .returned (vClean v).val ∧ Touch (fun _ => False) w w' := by
  obtain ⟨k, n, f, s⟩ := v
  have HB : Hid (∀ w, Calls Tryz.prog 87 #[.float .f64 f] w fun e w' => e = .returned (.float .f64 (refBits f)) ∧ w' = w) := v_oneNaN f
  simp only [V.val, vClean] at *
  generalize refBits f = g at *
  have h2 := run_store_f64 Tryz.prog
  go_enter Tryz.func68, Tryz.ntmps68
  go_wp2_with fail
  refine (HB.out _).mono ?_
  rintro e w1 ⟨rfl, rfl⟩
  go_wp2_with fail
  refine bodyPost_ret (v := .agg #[.int .i64 k, .int .i64 n, .float .f64 g, .string s]) (by simp [results, Tryz.results68, go_sem]) rfl ⟨rfl, ?_⟩
  first
    | exact ((Touch.refl _ _).alloc _).alloc _
    | exact (((((((Touch.refl _ _).alloc _).alloc _).setCell _ _ (fun h => by simp only at h; omega)).setCell _ _ (fun h => by simp only at h; omega)).setCell _ _ (fun h => by simp only at h; omega)).setCell _ _ (fun h => by simp only at h; omega)).setCell _ _ (fun h => by simp only at h; omega)
end Go.Proofs.YtnilikomoapcaaaGreat

/- Package marks: markOf. -/
namespace Go.Proofs.YtnilikomoapcaaaGreat
open Go.RowKit
set_option linter.unusedVariables false
set_option linter.unusedSimpArgs false
set_option maxRecDepth 100000

/-- A mark, as a place tells it. -/
abbrev mkV (ky : ByteArray) (vk vn : Int) (vf : Nat) (vs : ByteArray) : Value := .agg #[.string ky, .int .i64 vk, .int .i64 vn, .float .f64 vf, .string vs]
abbrev mkO (o : O) : Value := mkV o.ky o.vk o.vn (refBits o.vf) o.vs
theorem opO_val {W : World} {m : Nat} {o : O} (h : W.heap[m]? = some (opO o)) : W.cell? ⟨m, 9, none⟩ = some (.int .i64 o.vk) ∧ W.cell? ⟨m, 10, none⟩ = some (.int .i64 o.vn) ∧ W.cell? ⟨m, 11, none⟩ = some (.float .f64 o.vf) ∧ W.cell? ⟨m, 12, none⟩ = some (.string o.vs) ∧ W.cell? ⟨m, 13, none⟩ = some (.string o.ky) :=
  ⟨by rw [cell_of_block h]; rfl, by rw [cell_of_block h]; rfl, by rw [cell_of_block h]; rfl, by rw [cell_of_block h]; rfl, by rw [cell_of_block h]; rfl⟩
abbrev mbO (a : ByteArray) (b c : Int) (d : Nat) (e : ByteArray) : Obj := .cells #[.string a, .int .i64 b, .int .i64 c, .float .f64 d, .string e] 55
abbrev mbW (W : World) (m : Nat) (a : ByteArray) (b c : Int) (d : Nat) (e : ByteArray) : World := (((((W.setCell ⟨m, 0, none⟩ (.string a)).setCell ⟨m, 1, none⟩ (.int .i64 b)).setCell ⟨m, 2, none⟩ (.int .i64 c)).setCell ⟨m, 3, none⟩ (.float .f64 d)).setCell ⟨m, 4, none⟩ (.string e))
theorem mbO_steps {W : World} {m : Nat} {z : ByteArray} (h : W.heap[m]? = some (mbO z 0 0 0 z)) (a : ByteArray) (b c : Int) (d : Nat) (e : ByteArray) : W.cell? ⟨m, 0, none⟩ = some (.string z) ∧ W.frozen? ⟨m, 0, none⟩ = false ∧ (W.setCell ⟨m, 0, none⟩ (.string a)).cell? ⟨m, 1, none⟩ = some (.int .i64 0) ∧ (W.setCell ⟨m, 0, none⟩ (.string a)).frozen? ⟨m, 1, none⟩ = false ∧ ((W.setCell ⟨m, 0, none⟩ (.string a)).setCell ⟨m, 1, none⟩ (.int .i64 b)).cell? ⟨m, 2, none⟩ = some (.int .i64 0) ∧ ((W.setCell ⟨m, 0, none⟩ (.string a)).setCell ⟨m, 1, none⟩ (.int .i64 b)).frozen? ⟨m, 2, none⟩ = false ∧ (((W.setCell ⟨m, 0, none⟩ (.string a)).setCell ⟨m, 1, none⟩ (.int .i64 b)).setCell ⟨m, 2, none⟩ (.int .i64 c)).cell? ⟨m, 3, none⟩ = some (.float .f64 0) ∧ (((W.setCell ⟨m, 0, none⟩ (.string a)).setCell ⟨m, 1, none⟩ (.int .i64 b)).setCell ⟨m, 2, none⟩ (.int .i64 c)).frozen? ⟨m, 3, none⟩ = false ∧ ((((W.setCell ⟨m, 0, none⟩ (.string a)).setCell ⟨m, 1, none⟩ (.int .i64 b)).setCell ⟨m, 2, none⟩ (.int .i64 c)).setCell ⟨m, 3, none⟩ (.float .f64 d)).cell? ⟨m, 4, none⟩ = some (.string z) ∧ ((((W.setCell ⟨m, 0, none⟩ (.string a)).setCell ⟨m, 1, none⟩ (.int .i64 b)).setCell ⟨m, 2, none⟩ (.int .i64 c)).setCell ⟨m, 3, none⟩ (.float .f64 d)).frozen? ⟨m, 4, none⟩ = false :=
  ⟨by rw [cell_of_block (h)]; rfl, free_of_block (h), by rw [cell_of_block (heap_setCell_same _ _ _ _ (h))]; rfl, free_of_block (heap_setCell_same _ _ _ _ (h)), by rw [cell_of_block (heap_setCell_same _ _ _ _ (heap_setCell_same _ _ _ _ (h)))]; rfl, free_of_block (heap_setCell_same _ _ _ _ (heap_setCell_same _ _ _ _ (h))), by rw [cell_of_block (heap_setCell_same _ _ _ _ (heap_setCell_same _ _ _ _ (heap_setCell_same _ _ _ _ (h))))]; rfl, free_of_block (heap_setCell_same _ _ _ _ (heap_setCell_same _ _ _ _ (heap_setCell_same _ _ _ _ (h)))), by rw [cell_of_block (heap_setCell_same _ _ _ _ (heap_setCell_same _ _ _ _ (heap_setCell_same _ _ _ _ (heap_setCell_same _ _ _ _ (h)))))]; rfl, free_of_block (heap_setCell_same _ _ _ _ (heap_setCell_same _ _ _ _ (heap_setCell_same _ _ _ _ (heap_setCell_same _ _ _ _ (h)))))⟩
theorem mbO_set {W : World} {m : Nat} {z : ByteArray} (h : W.heap[m]? = some (mbO z 0 0 0 z)) (a : ByteArray) (b c : Int) (d : Nat) (e : ByteArray) : (mbW W m a b c d e).heap[m]? = some (mbO a b c d e) := heap_setCell_same _ _ _ _ (heap_setCell_same _ _ _ _ (heap_setCell_same _ _ _ _ (heap_setCell_same _ _ _ _ (heap_setCell_same _ _ _ _ (h)))))
theorem mbO_cells {W : World} {m : Nat} {a : ByteArray} {b c : Int} {d : Nat} {e : ByteArray} (h : W.heap[m]? = some (mbO a b c d e)) : W.cell? ⟨m, 0, none⟩ = some (.string a) ∧ W.cell? ⟨m, 1, none⟩ = some (.int .i64 b) ∧ W.cell? ⟨m, 2, none⟩ = some (.int .i64 c) ∧ W.cell? ⟨m, 3, none⟩ = some (.float .f64 d) ∧ W.cell? ⟨m, 4, none⟩ = some (.string e) :=
  ⟨by rw [cell_of_block h]; rfl, by rw [cell_of_block h]; rfl, by rw [cell_of_block h]; rfl, by rw [cell_of_block h]; rfl, by rw [cell_of_block h]; rfl⟩
set_option maxHeartbeats 4000000 in
theorem markOf_any (x : O) (w : World) : Calls Tryz.prog 34 #[x.val] w fun e w' => e = .returned (mkO x) ∧ Touch (fun _ => False) w w' := by
  obtain ⟨z, hz⟩ : ∃ z : ByteArray, Hid (z = ⟨#[]⟩) := ⟨_, Eq.refl _⟩
  obtain ⟨E, hE⟩ : ∃ E, Hid (E = (w.alloc (opO x)).alloc (mbO ⟨#[]⟩ 0 0 0 ⟨#[]⟩)) := ⟨_, Eq.refl _⟩
  obtain ⟨m, hm⟩ : ∃ m, Hid (m = w.heap.size) := ⟨_, Eq.refl _⟩
  obtain ⟨r, hr⟩ : ∃ r, Hid (r = w.heap.size + 1) := ⟨_, Eq.refl _⟩
  have HTE : Hid (Touch (fun _ => False) w E) := by rw [hE.out]; exact ((Touch.refl _ _).alloc _).alloc _
  have HM : Hid (∀ W, Touch (fun _ => False) E W → (W.cell? ⟨m, 9, none⟩ = some (.int .i64 x.vk) ∧ W.cell? ⟨m, 10, none⟩ = some (.int .i64 x.vn) ∧ W.cell? ⟨m, 11, none⟩ = some (.float .f64 x.vf) ∧ W.cell? ⟨m, 12, none⟩ = some (.string x.vs) ∧ W.cell? ⟨m, 13, none⟩ = some (.string x.ky)) ∧ W.heap[r]? = some (mbO z 0 0 0 z)) := by
    have a1 : E.heap[m]? = some (opO x) := by
      rw [hE.out, hm.out]
      exact heap_keep ((Touch.refl _ _).alloc _) (heap_alloc_new _ _)
    have a2 : E.heap[r]? = some (mbO z 0 0 0 z) := by
      have := heap_alloc_new (w.alloc (opO x)) (mbO ⟨#[]⟩ 0 0 0 ⟨#[]⟩)
      rw [hE.out, hr.out, hz.out]
      rwa [show (w.alloc (opO x)).heap.size = w.heap.size + 1 from Array.size_push _] at this
    exact fun W t => ⟨opO_val (heap_keep t a1), heap_keep t a2⟩
  have HC : Hid (∀ W, Calls Tryz.prog 68 #[.agg #[.int .i64 x.vk, .int .i64 x.vn, .float .f64 x.vf, .string x.vs]] W fun e w' => e = .returned (.agg #[.int .i64 x.vk, .int .i64 x.vn, .float .f64 (refBits x.vf), .string x.vs]) ∧ Touch (fun _ => False) W w') := fun W => v_clean ⟨x.vk, x.vn, x.vf, x.vs⟩ W
  obtain ⟨xc, xk, xkind, xst, xlc, xlk, xrc, xrk, xtx, xvk, xvn, xvf, xvs, xky, xpc, xpk, xfc, xfk, xfa, xtc, xtk, xta⟩ := x
  simp only [mkO, mkV] at HM HC ⊢
  generalize refBits xvf = g at *
  obtain ⟨⟨k0, k1, k2, k3, k4⟩, -⟩ := HM.out _ (Touch.refl _ E)
  obtain ⟨⟨l0, l1, l2, l3, l4⟩, -⟩ := HM.out _ (Touch.refl _ E).drew
  go_enter Tryz.func34, Tryz.ntmps34
  go_upto_region 1 with fail
  rw [← hE.out, ← hr.out, ← hm.out]
  have hmr : Hid (w.heap.size ≤ r) := by rw [hr.out]; exact Nat.le_succ _
  clear hE hm hr
  have h2 := run_store_f64 Tryz.prog
  go_region_with (go_at_call 68; (with_reducible refine (HC.out _).mono ?_); rintro e w1 ⟨rfl, t1⟩; obtain ⟨⟨n0, n1, n2, n3, n4⟩, n5⟩ := HM.out _ ((Touch.refl _ E).drew.trans t1); obtain ⟨s0, s1, s2, s3, s4, s5, s6, s7, s8, s9⟩ := mbO_steps n5 xky xvk xvn g xvs; have HT1 : Hid (Touch (fun _ => False) w (mbW w1 r xky xvk xvn g xvs) ∧ (mbW w1 r xky xvk xvn g xvs).heap[r]? = some (mbO xky xvk xvn g xvs)) := ⟨(((((HTE.out.trans ((Touch.refl _ E).drew.trans t1)).fresh _ _ _ hmr.out).fresh _ _ _ hmr.out).fresh _ _ _ hmr.out).fresh _ _ _ hmr.out).fresh _ _ _ hmr.out, mbO_set n5 _ _ _ _ _⟩; clear t1 n5)
  all_goals (try go_wp2_with fail)
  all_goals (obtain ⟨u0, u1, u2, u3, u4⟩ := mbO_cells HT1.out.2)
  all_goals (refine bodyPost_ret (v := .agg #[.string xky, .int .i64 xvk, .int .i64 xvn, .float .f64 g, .string xvs]) (by simp [results, Tryz.results34, go_sem, u0, u1, u2, u3, u4]) rfl ?_)
  all_goals exact ⟨rfl, HT1.out.1⟩
end Go.Proofs.YtnilikomoapcaaaGreat

/- The library's functions on the sorted keys of a map, laid at this program. -/
namespace Go.Proofs
open Go.Shelf
def Tryz.keys31_ren : Go.Shelf.Ren := ⟨fun | 7 => 31 | 10 => 62 | n => n, fun | 23 => 83 | 26 => 9 | 3 => 89 | 28 => 93 | 0 => 0 | 27 => 92 | 33 => 124 | 4 => 4 | n => n, fun | n => n⟩
theorem Tryz.keys31 : Go.Proofs.SlLaysZ.n7 Tryz.prog Tryz.keys31_ren := {
  mixed := by kernel_rfl
  f7 := ⟨Tryz.f31.name, by decide, Tryz.func31.trans (congrArg some (by kernel_rfl))⟩
  f10 := ⟨Tryz.f62.name, by decide, Tryz.func62.trans (congrArg some (by kernel_rfl))⟩
  t0 := Tryz.underlying0
  a0 := Tryz.isAgg0
  z0 := Tryz.sizeOf0
  v0 := Tryz.zeroValue0
  t4 := Tryz.underlying4
  a4 := Tryz.isAgg4
  z4 := Tryz.sizeOf4
  v4 := Tryz.zeroValue4
  t23 := Tryz.underlying83
  a23 := Tryz.isAgg83
  z23 := Tryz.sizeOf83
  v23 := Tryz.zeroValue83
  t26 := Tryz.underlying9
  a26 := Tryz.isAgg9
  z26 := Tryz.sizeOf9
  v26 := Tryz.zeroValue9
  t27 := Tryz.underlying92
  a27 := Tryz.isAgg92
  z27 := Tryz.sizeOf92
  v27 := Tryz.zeroValue92
  t28 := Tryz.underlying93
  a28 := Tryz.isAgg93
  z28 := Tryz.sizeOf93
  v28 := Tryz.zeroValue93
  t33 := Tryz.underlying124
  a33 := Tryz.isAgg124
  z33 := Tryz.sizeOf124
  v33 := Tryz.zeroValue124 }
def Tryz.sorted30_ren : Go.Shelf.Ren := ⟨fun | 6 => 30 | 8 => 60 | 9 => 61 | 11 => 79 | 13 => 81 | 12 => 80 | 23 => 108 | 24 => 109 | 14 => 99 | 15 => 100 | 16 => 101 | 17 => 102 | 18 => 103 | 19 => 104 | 20 => 105 | 21 => 106 | 22 => 107 | 25 => 120 | 26 => 121 | 27 => 122 | 28 => 123 | 29 => 124 | 30 => 118 | 31 => 134 | n => n, fun | 26 => 9 | 28 => 93 | 24 => 90 | 0 => 0 | 3 => 3 | 37 => 138 | 48 => 163 | 50 => 26 | 4 => 4 | 40 => 156 | 39 => 155 | 45 => 58 | 5 => 5 | 9 => 9 | 51 => 171 | 55 => 175 | 57 => 182 | 58 => 60 | 33 => 124 | n => n, fun | n => n⟩
theorem Tryz.sorted30 : Go.Proofs.SlLaysZ.n6 Tryz.prog Tryz.sorted30_ren := {
  mixed := by kernel_rfl
  f6 := ⟨Tryz.f30.name, by decide, Tryz.func30.trans (congrArg some (by kernel_rfl))⟩
  f8 := ⟨Tryz.f60.name, by decide, Tryz.func60.trans (congrArg some (by kernel_rfl))⟩
  f11 := ⟨Tryz.f79.name, by decide, Tryz.func79.trans (congrArg some (by kernel_rfl))⟩
  t0 := Tryz.underlying0
  a0 := Tryz.isAgg0
  z0 := Tryz.sizeOf0
  v0 := Tryz.zeroValue0
  t24 := Tryz.underlying90
  a24 := Tryz.isAgg90
  z24 := Tryz.sizeOf90
  v24 := Tryz.zeroValue90
  t26 := Tryz.underlying9
  a26 := Tryz.isAgg9
  z26 := Tryz.sizeOf9
  v26 := Tryz.zeroValue9
  t28 := Tryz.underlying93
  a28 := Tryz.isAgg93
  z28 := Tryz.sizeOf93
  v28 := Tryz.zeroValue93
  i26 := by kernel_rfl }
def Tryz.sort61_ren : Go.Shelf.Ren := ⟨fun | 6 => 61 | 8 => 81 | 9 => 80 | 19 => 108 | 20 => 109 | 21 => 99 | 22 => 100 | 23 => 101 | 24 => 102 | 25 => 103 | 26 => 104 | 27 => 105 | 28 => 106 | 29 => 107 | 36 => 120 | 31 => 121 | 32 => 122 | 37 => 123 | 38 => 124 | 39 => 118 | 41 => 134 | n => n, fun | 27 => 90 | 29 => 9 | 3 => 3 | 32 => 138 | 26 => 90 | 0 => 0 | 44 => 163 | 46 => 26 | 4 => 4 | 36 => 156 | 35 => 155 | 41 => 58 | 5 => 5 | 9 => 9 | 53 => 171 | 57 => 175 | 63 => 182 | 64 => 60 | n => n, fun | n => n⟩
theorem Tryz.sort61 : Go.Proofs.SlLaysM.n6 Tryz.prog Tryz.sort61_ren := {
  mixed := by kernel_rfl
  f6 := ⟨Tryz.f61.name, by decide, Tryz.func61.trans (congrArg some (by kernel_rfl))⟩
  f8 := Tryz.func81.trans (congrArg some (by kernel_rfl))
  f9 := ⟨Tryz.f80.name, by decide, Tryz.func80.trans (congrArg some (by kernel_rfl))⟩
  f19 := Tryz.func108.trans (congrArg some (by kernel_rfl))
  f20 := Tryz.func109.trans (congrArg some (by kernel_rfl))
  f21 := ⟨Tryz.f99.name, by decide, Tryz.func99.trans (congrArg some (by kernel_rfl))⟩
  f22 := ⟨Tryz.f100.name, by decide, Tryz.func100.trans (congrArg some (by kernel_rfl))⟩
  f23 := ⟨Tryz.f101.name, by decide, Tryz.func101.trans (congrArg some (by kernel_rfl))⟩
  f24 := ⟨Tryz.f102.name, by decide, Tryz.func102.trans (congrArg some (by kernel_rfl))⟩
  f25 := ⟨Tryz.f103.name, by decide, Tryz.func103.trans (congrArg some (by kernel_rfl))⟩
  f26 := ⟨Tryz.f104.name, by decide, Tryz.func104.trans (congrArg some (by kernel_rfl))⟩
  f27 := ⟨Tryz.f105.name, by decide, Tryz.func105.trans (congrArg some (by kernel_rfl))⟩
  f28 := ⟨Tryz.f106.name, by decide, Tryz.func106.trans (congrArg some (by kernel_rfl))⟩
  f29 := ⟨Tryz.f107.name, by decide, Tryz.func107.trans (congrArg some (by kernel_rfl))⟩
  f31 := Tryz.func121.trans (congrArg some (by kernel_rfl))
  f32 := Tryz.func122.trans (congrArg some (by kernel_rfl))
  f36 := ⟨Tryz.f120.name, by decide, Tryz.func120.trans (congrArg some (by kernel_rfl))⟩
  f37 := ⟨Tryz.f123.name, by decide, Tryz.func123.trans (congrArg some (by kernel_rfl))⟩
  f38 := ⟨Tryz.f124.name, by decide, Tryz.func124.trans (congrArg some (by kernel_rfl))⟩
  f39 := ⟨Tryz.f118.name, by decide, Tryz.func118.trans (congrArg some (by kernel_rfl))⟩
  f41 := ⟨Tryz.f134.name, by decide, Tryz.func134.trans (congrArg some (by kernel_rfl))⟩
  t0 := Tryz.underlying0
  a0 := Tryz.isAgg0
  z0 := Tryz.sizeOf0
  v0 := Tryz.zeroValue0
  t3 := Tryz.underlying3
  a3 := Tryz.isAgg3
  z3 := Tryz.sizeOf3
  v3 := Tryz.zeroValue3
  t4 := Tryz.underlying4
  a4 := Tryz.isAgg4
  z4 := Tryz.sizeOf4
  v4 := Tryz.zeroValue4
  t5 := Tryz.underlying5
  a5 := Tryz.isAgg5
  z5 := Tryz.sizeOf5
  v5 := Tryz.zeroValue5
  t9 := Tryz.underlying9
  a9 := Tryz.isAgg9
  z9 := Tryz.sizeOf9
  v9 := Tryz.zeroValue9
  t26 := Tryz.underlying90
  a26 := Tryz.isAgg90
  z26 := Tryz.sizeOf90
  v26 := Tryz.zeroValue90
  t27 := Tryz.underlying90
  a27 := Tryz.isAgg90
  z27 := Tryz.sizeOf90
  v27 := Tryz.zeroValue90
  t29 := Tryz.underlying9
  a29 := Tryz.isAgg9
  z29 := Tryz.sizeOf9
  v29 := Tryz.zeroValue9
  t32 := Tryz.underlying138
  a32 := Tryz.isAgg138
  z32 := Tryz.sizeOf138
  v32 := Tryz.zeroValue138
  t35 := Tryz.underlying155
  a35 := Tryz.isAgg155
  z35 := Tryz.sizeOf155
  v35 := Tryz.zeroValue155
  t36 := Tryz.underlying156
  a36 := Tryz.isAgg156
  z36 := Tryz.sizeOf156
  v36 := Tryz.zeroValue156
  t41 := Tryz.underlying58
  a41 := Tryz.isAgg58
  z41 := Tryz.sizeOf58
  v41 := Tryz.zeroValue58
  t44 := Tryz.underlying163
  a44 := Tryz.isAgg163
  z44 := Tryz.sizeOf163
  v44 := Tryz.zeroValue163
  t46 := Tryz.underlying26
  a46 := Tryz.isAgg26
  z46 := Tryz.sizeOf26
  v46 := Tryz.zeroValue26
  t53 := Tryz.underlying171
  a53 := Tryz.isAgg171
  z53 := Tryz.sizeOf171
  v53 := Tryz.zeroValue171
  t57 := Tryz.underlying175
  a57 := Tryz.isAgg175
  z57 := Tryz.sizeOf175
  v57 := Tryz.zeroValue175
  t63 := Tryz.underlying182
  a63 := Tryz.isAgg182
  z63 := Tryz.sizeOf182
  v63 := Tryz.zeroValue182
  t64 := Tryz.underlying60
  a64 := Tryz.isAgg60
  z64 := Tryz.sizeOf60
  v64 := Tryz.zeroValue60 }
def Tryz.keys42_ren : Go.Shelf.Ren := ⟨fun | 7 => 42 | 10 => 76 | n => n, fun | 23 => 102 | 26 => 9 | 3 => 39 | 28 => 93 | 0 => 0 | 27 => 92 | 33 => 124 | 4 => 4 | n => n, fun | n => n⟩
theorem Tryz.keys42 : Go.Proofs.SlLaysZ.n7 Tryz.prog Tryz.keys42_ren := {
  mixed := by kernel_rfl
  f7 := ⟨Tryz.f42.name, by decide, Tryz.func42.trans (congrArg some (by kernel_rfl))⟩
  f10 := ⟨Tryz.f76.name, by decide, Tryz.func76.trans (congrArg some (by kernel_rfl))⟩
  t0 := Tryz.underlying0
  a0 := Tryz.isAgg0
  z0 := Tryz.sizeOf0
  v0 := Tryz.zeroValue0
  t4 := Tryz.underlying4
  a4 := Tryz.isAgg4
  z4 := Tryz.sizeOf4
  v4 := Tryz.zeroValue4
  t23 := Tryz.underlying102
  a23 := Tryz.isAgg102
  z23 := Tryz.sizeOf102
  v23 := Tryz.zeroValue102
  t26 := Tryz.underlying9
  a26 := Tryz.isAgg9
  z26 := Tryz.sizeOf9
  v26 := Tryz.zeroValue9
  t27 := Tryz.underlying92
  a27 := Tryz.isAgg92
  z27 := Tryz.sizeOf92
  v27 := Tryz.zeroValue92
  t28 := Tryz.underlying93
  a28 := Tryz.isAgg93
  z28 := Tryz.sizeOf93
  v28 := Tryz.zeroValue93
  t33 := Tryz.underlying124
  a33 := Tryz.isAgg124
  z33 := Tryz.sizeOf124
  v33 := Tryz.zeroValue124 }
end Go.Proofs

/- The library's contracts on the sorted keys of a map, laid at this program. -/
namespace Go.Proofs
open Go.RowKit Go.Maps Go.Sort Go.Shelf

theorem Tryz.sorts30 (m : Nat) : AnyZ.SortsIn Tryz.prog Tryz.sorted30_ren Fence.wide m :=
  ⟨fun blk off cap ss W hH hblk hsz => callsIn_wide.2 (AnyM.slices_Sort_string Tryz.sort61 blk off cap ss W hH hblk hsz),
   fun p cap W => callsIn_wide.2 (AnyM.slices_Sort_string_none Tryz.sort61 p cap W)⟩

theorem Tryz.maps_Keys_31 (mb : Option Nat) (W : World) : CallsIn Fence.wide 5 Tryz.prog 31 #[.map mb] W fun e w' => e = .returned (.func (.func 62) #[] #[.pointer (some ⟨W.heap.size, 0, none⟩)]) ∧ w' = W.alloc (.cells #[.map mb] 83) :=
  AnyZ.keys_in Tryz.keys31 Fence.wide 5 trivial rfl mb W

set_option maxHeartbeats 1000000 in
theorem Tryz.slices_Sorted_keys_30_31 {H : Type} (b nn : Nat) (D0 : DataW H) (R : Value → Option (DataW H × List MemPlace)) (w : World) (hown : w.ownsMap Tryz.prog 9 R b nn D0) (hmax : Maps.size D0 ≤ maxLen) (hbytes : Maps.size D0 * 16 ≤ 140737488355328) :
    CallsIn Fence.wide 5 Tryz.prog 30 #[.func (.func 62) #[] #[.pointer (some ⟨w.heap.size, 0, none⟩)]] (w.alloc (.cells #[.map (some b)] 83)) fun e w' => ∃ (v : Value) (ss : List (List UInt8)), e = .returned v ∧ ss.Perm (strKeys D0) ∧
      w'.ownsRow (w.alloc (.cells #[.map (some b)] 83)).heap.size 9 1 v ss.length ((ss.mergeSort (fun x y => decide (x ≤ y))).map encStr) ∧ (v = .slice none 0 0 ↔ ss = []) ∧ Below (w.alloc (.cells #[.map (some b)] 83)).heap.size (w.alloc (.cells #[.map (some b)] 83)) w' := by
  have hbl := hown.lt
  have hseq : SeqGives Fence.wide 2 Tryz.prog 62 #[.pointer (some ⟨w.heap.size, 0, none⟩)] encStr (fun ss => ss.Perm (strKeys D0)) (Maps.size D0) (w.alloc (.cells #[.map (some b)] 83)) :=
    AnyZ.keys_gives (ρ := Tryz.keys31_ren) { Tryz.keys31 with } Fence.wide _ trivial rfl (by omega) w.heap.size b nn D0 _ (by simp) (by simp) (by
      obtain ⟨es, clock, hb, Ft, hs, hD⟩ := hown
      exact ⟨es, clock, (Below.heap_alloc _ _ b hbl).trans hb, Ft, hs, hD⟩)
  exact AnyZ.sorted_in Tryz.sorted30 Fence.wide 5 trivial trivial trivial trivial rfl (by omega) (Tryz.sorts30 _) (enters_of Tryz.func61 (by kernel_rfl) rfl) 62 #[.pointer (some ⟨w.heap.size, 0, none⟩)] trivial (enters_of Tryz.func62 (by kernel_rfl) rfl) _ _ hmax hbytes _ hseq

set_option maxHeartbeats 1000000 in
theorem Tryz.slices_Sorted_keys_nil_30_31 (w : World) :
    CallsIn Fence.wide 5 Tryz.prog 30 #[.func (.func 62) #[] #[.pointer (some ⟨w.heap.size, 0, none⟩)]] (w.alloc (.cells #[.map none] 83)) fun e w' => ∃ (v : Value) (ss : List (List UInt8)), e = .returned v ∧ ss = [] ∧
      w'.ownsRow (w.alloc (.cells #[.map none] 83)).heap.size 9 1 v ss.length ((ss.mergeSort (fun x y => decide (x ≤ y))).map encStr) ∧ (v = .slice none 0 0 ↔ ss = []) ∧ Below (w.alloc (.cells #[.map none] 83)).heap.size (w.alloc (.cells #[.map none] 83)) w' := by
  have hseq : SeqGives Fence.wide 2 Tryz.prog 62 #[.pointer (some ⟨w.heap.size, 0, none⟩)] encStr (fun ss : List (List UInt8) => ss = []) 0 (w.alloc (.cells #[.map none] 83)) :=
    AnyZ.keys_gives_nil (ρ := Tryz.keys31_ren) { Tryz.keys31 with } Fence.wide _ trivial rfl w.heap.size _ (by simp) (by simp)
  exact AnyZ.sorted_in Tryz.sorted30 Fence.wide 5 trivial trivial trivial trivial rfl (by omega) (Tryz.sorts30 _) (enters_of Tryz.func61 (by kernel_rfl) rfl) 62 #[.pointer (some ⟨w.heap.size, 0, none⟩)] trivial (enters_of Tryz.func62 (by kernel_rfl) rfl) _ 0 (Nat.zero_le _) (by omega) _ hseq

theorem Tryz.maps_Keys_42 (mb : Option Nat) (W : World) : CallsIn Fence.wide 5 Tryz.prog 42 #[.map mb] W fun e w' => e = .returned (.func (.func 76) #[] #[.pointer (some ⟨W.heap.size, 0, none⟩)]) ∧ w' = W.alloc (.cells #[.map mb] 102) :=
  AnyZ.keys_in Tryz.keys42 Fence.wide 5 trivial rfl mb W

set_option maxHeartbeats 1000000 in
theorem Tryz.slices_Sorted_keys_30_42 {H : Type} (b nn : Nat) (D0 : DataW H) (R : Value → Option (DataW H × List MemPlace)) (w : World) (hown : w.ownsMap Tryz.prog 9 R b nn D0) (hmax : Maps.size D0 ≤ maxLen) (hbytes : Maps.size D0 * 16 ≤ 140737488355328) :
    CallsIn Fence.wide 5 Tryz.prog 30 #[.func (.func 76) #[] #[.pointer (some ⟨w.heap.size, 0, none⟩)]] (w.alloc (.cells #[.map (some b)] 102)) fun e w' => ∃ (v : Value) (ss : List (List UInt8)), e = .returned v ∧ ss.Perm (strKeys D0) ∧
      w'.ownsRow (w.alloc (.cells #[.map (some b)] 102)).heap.size 9 1 v ss.length ((ss.mergeSort (fun x y => decide (x ≤ y))).map encStr) ∧ (v = .slice none 0 0 ↔ ss = []) ∧ Below (w.alloc (.cells #[.map (some b)] 102)).heap.size (w.alloc (.cells #[.map (some b)] 102)) w' := by
  have hbl := hown.lt
  have hseq : SeqGives Fence.wide 2 Tryz.prog 76 #[.pointer (some ⟨w.heap.size, 0, none⟩)] encStr (fun ss => ss.Perm (strKeys D0)) (Maps.size D0) (w.alloc (.cells #[.map (some b)] 102)) :=
    AnyZ.keys_gives (ρ := Tryz.keys42_ren) { Tryz.keys42 with } Fence.wide _ trivial rfl (by omega) w.heap.size b nn D0 _ (by simp) (by simp) (by
      obtain ⟨es, clock, hb, Ft, hs, hD⟩ := hown
      exact ⟨es, clock, (Below.heap_alloc _ _ b hbl).trans hb, Ft, hs, hD⟩)
  exact AnyZ.sorted_in Tryz.sorted30 Fence.wide 5 trivial trivial trivial trivial rfl (by omega) (Tryz.sorts30 _) (enters_of Tryz.func61 (by kernel_rfl) rfl) 76 #[.pointer (some ⟨w.heap.size, 0, none⟩)] trivial (enters_of Tryz.func76 (by kernel_rfl) rfl) _ _ hmax hbytes _ hseq

set_option maxHeartbeats 1000000 in
theorem Tryz.slices_Sorted_keys_nil_30_42 (w : World) :
    CallsIn Fence.wide 5 Tryz.prog 30 #[.func (.func 76) #[] #[.pointer (some ⟨w.heap.size, 0, none⟩)]] (w.alloc (.cells #[.map none] 102)) fun e w' => ∃ (v : Value) (ss : List (List UInt8)), e = .returned v ∧ ss = [] ∧
      w'.ownsRow (w.alloc (.cells #[.map none] 102)).heap.size 9 1 v ss.length ((ss.mergeSort (fun x y => decide (x ≤ y))).map encStr) ∧ (v = .slice none 0 0 ↔ ss = []) ∧ Below (w.alloc (.cells #[.map none] 102)).heap.size (w.alloc (.cells #[.map none] 102)) w' := by
  have hseq : SeqGives Fence.wide 2 Tryz.prog 76 #[.pointer (some ⟨w.heap.size, 0, none⟩)] encStr (fun ss : List (List UInt8) => ss = []) 0 (w.alloc (.cells #[.map none] 102)) :=
    AnyZ.keys_gives_nil (ρ := Tryz.keys42_ren) { Tryz.keys42 with } Fence.wide _ trivial rfl w.heap.size _ (by simp) (by simp)
  exact AnyZ.sorted_in Tryz.sorted30 Fence.wide 5 trivial trivial trivial trivial rfl (by omega) (Tryz.sorts30 _) (enters_of Tryz.func61 (by kernel_rfl) rfl) 76 #[.pointer (some ⟨w.heap.size, 0, none⟩)] trivial (enters_of Tryz.func76 (by kernel_rfl) rfl) _ 0 (Nat.zero_le _) (by omega) _ hseq

end Go.Proofs
