/- The contract of quirelaw2.ValueReads. -/
import Derived.Test.YtkiicdleoniioaaDoorKnown2
import Derived.Test.YtkiicdleoniioaaDoorPart5
import Derived.Test.YtkiicdleoniioaaDoorVrQ
import Derived.Test.YtkiicdleoniioaaDoorVrS
import Derived.Test.YtkiicdleoniioaaDoorTaken
import Derived.Test.YtkiicdleoniioaaDoorPart8
import Derived.Deep.RegionHeld3
namespace Go.Proofs.YtkiicdleoniioaaDoor
open Go.RowKit
set_option linter.unusedVariables false
set_option linter.unusedSimpArgs false
set_option maxRecDepth 100000

theorem addr_add0 (a : Addr) : a.add 0 = a := by cases a; simp [Addr.add]
theorem sliceB_to (bo : Option Addr) (n cap c : Nat) (h : c ≤ cap) (W : World) : (Instr.slice 22 (.slice bo n cap) none (some (.int .i64 (c : Int))) none).run Tryd.prog W = .ok (.slice bo c cap) W := by
  have h0 : (0 : Int) ≤ (c : Int) := by omega
  have h1 : (c : Int) ≤ (cap : Int) := by omega
  have hu := Tryd.underlying22
  obtain ⟨i0, hi, hz0, hz1, hz2⟩ := info_parts Tryd.infoByte
  simp [Instr.slice, run_underlying hu, Instr.sliceBounds, run_sliceBound, h1, sizeOf, typeInfo, hi, addr_add0]

theorem boxesE_keep {w0 w w' : World} {A B s : Nat} {k n k2 n2 er : Int} {f f2 : Nat} {t t2 : ByteArray}
    (h : w.cell? ⟨s, 1, none⟩ = some (.int .i64 er) ∧ w.cell? ⟨A, 0, none⟩ = some (.int .i64 k) ∧ w.cell? ⟨A, 1, none⟩ = some (.int .i64 n) ∧ w.cell? ⟨A, 2, none⟩ = some (.float .f64 f) ∧ w.cell? ⟨A, 3, none⟩ = some (.string t) ∧ w.cell? ⟨B, 0, none⟩ = some (.int .i64 k2) ∧ w.cell? ⟨B, 1, none⟩ = some (.int .i64 n2) ∧ w.cell? ⟨B, 2, none⟩ = some (.float .f64 f2) ∧ w.cell? ⟨B, 3, none⟩ = some (.string t2) ∧ Hid (Touch (fun _ => False) w0 w)) (hT : Touch (fun _ => False) w w') :
    w'.cell? ⟨s, 1, none⟩ = some (.int .i64 er) ∧ w'.cell? ⟨A, 0, none⟩ = some (.int .i64 k) ∧ w'.cell? ⟨A, 1, none⟩ = some (.int .i64 n) ∧ w'.cell? ⟨A, 2, none⟩ = some (.float .f64 f) ∧ w'.cell? ⟨A, 3, none⟩ = some (.string t) ∧ w'.cell? ⟨B, 0, none⟩ = some (.int .i64 k2) ∧ w'.cell? ⟨B, 1, none⟩ = some (.int .i64 n2) ∧ w'.cell? ⟨B, 2, none⟩ = some (.float .f64 f2) ∧ w'.cell? ⟨B, 3, none⟩ = some (.string t2) ∧ Hid (Touch (fun _ => False) w0 w') := by
  have go : ∀ (b o : Nat) (v : Value), w.cell? ⟨b, o, none⟩ = some v → w'.cell? ⟨b, o, none⟩ = some v := fun b o v hv => (hT.cell (World.block_lt_of_cell? _ _ hv) id o).trans hv
  obtain ⟨h0, h1, h2, h3, h4, h5, h6, h7, h8, h9⟩ := h
  exact ⟨go _ _ _ h0, go _ _ _ h1, go _ _ _ h2, go _ _ _ h3, go _ _ _ h4, go _ _ _ h5, go _ _ _ h6, go _ _ _ h7, go _ _ _ h8, h9.out.trans hT⟩

theorem boxS_keep {w0 w w' : World} {s : Nat} {v : Value} (h : w.cell? ⟨s, 0, none⟩ = some v ∧ Hid (Touch (fun _ => False) w0 w)) (hT : Touch (fun _ => False) w w') : w'.cell? ⟨s, 0, none⟩ = some v ∧ Hid (Touch (fun _ => False) w0 w') :=
  ⟨(hT.cell (World.block_lt_of_cell? _ _ h.1) id 0).trans h.1, h.2.out.trans hT⟩
theorem boxS_touch {w0 w : World} {s : Nat} {v : Value} (h : w.cell? ⟨s, 0, none⟩ = some v ∧ Hid (Touch (fun _ => False) w0 w)) : Touch (fun _ => False) w0 w := h.2.out

set_option maxHeartbeats 8000000 in
theorem valueReads_any (w : World) (g0 : Nat) (ao : Option Addr) (bs : List UInt8) (nn cap : Nat) (hn : nn = bs.length) (hno : ao = none → cap = 0) (hL : Lies w g0 ao bs) (hg : bs ≠ [] → g0 < w.heap.size) (hl : bs.length ≤ 9223372036854775807) (hle : bs.length ≤ cap) (hmx : cap ≤ 9223372036854775807) (hU : TabsU w) :
    Calls Tryd.prog 3 #[.slice ao nn cap] w fun e w' => e = .returned (.bool true) ∧ Touch (fun _ => False) w w' := by
  subst hn
  have SM : Hid ((ao = none → cap = 0) ∧ Lies w g0 ao bs) := ⟨hno, hL⟩
  have HU : Hid (TabsU w) := hU
  have HG34 : Hid (Tryd.lays196_ren.g 3 < w.heap.size ∧ Tryd.lays196_ren.g 4 < w.heap.size) := ⟨World.block_lt_of_cell? _ _ (hU.1 0 (by decide)), World.block_lt_of_cell? _ _ (hU.2 0 (by decide)).1⟩
  have KN := known2 w
  have hnot : ∀ (x : Bool) (w : World), (Op.unary .not (.bool x)).run Tryd.prog w = .ok (.bool (!x)) w := fun _ _ => rfl
  have hst := run_store_f64 Tryd.prog
  clear hno hL hg hU
  go_enter Tryd.func3, Tryd.ntmps3
  go_wp2_with fail
  refine KN.mono ?_
  rintro e w1 ⟨rfl, t1⟩
  have HT : Hid (Touch (fun _ => False) w w1) := t1
  clear t1 KN
  by_cases hm : bs.length ≤ 6000
  case neg =>
    have hm1 : (6000 : Int) < (bs.length : Int) := by omega
    go_wp2_with fail
    go_ret
    exact ⟨rfl, HT.out⟩
  have hm1 : ¬ ((6000 : Int) < (bs.length : Int)) := by omega
  have HM : Hid (bs.length ≤ 6000) := hm
  have lk : ∀ {S W W'} {g : Nat} {a : Option Addr} {l : List UInt8}, Lies W g a l → Touch S W W' → (l ≠ [] → ¬ S g) → Lies W' g a l := fun h t hS => h.keep fun e => t.block _ (h.lt e) (hS e)
  have K2 := newReader_any g0 ao bs _ cap rfl SM.out.1 w1 (lk SM.out.2 HT.out (fun _ => id)) (by omega)
  clear hm
  go_wp2_with fail
  refine K2.mono ?_
  rintro e w2 ⟨p, g, rfl, R2, hp, hg, t2⟩
  have hplt := R2.lt
  have hglt := R2.ltBytes
  have T2 := HT.out.trans t2
  have zw := HT.out.size
  have H2 : Hid (w.heap.size ≤ p ∧ w.heap.size ≤ g ∧ p < w2.heap.size ∧ g < w2.heap.size ∧ w.heap.size ≤ w2.heap.size) := ⟨by omega, by omega, hplt, hglt, by omega⟩
  obtain ⟨w3, hw3⟩ : ∃ w3, Hid (w3 = w2.alloc (.cells #[.slice ao bs.length cap, .int .i64 0] 28)) := ⟨_, Eq.refl _⟩
  have t3 : Touch (fun _ => False) w2 w3 := by rw [hw3.out]; exact (Touch.refl _ _).alloc _
  have z3 : w3.heap.size = w2.heap.size + 1 := by rw [hw3.out]; simp
  have T3 := T2.trans t3
  obtain ⟨gm, hgm, hgm2, hL3⟩ : ∃ gm, gm < w3.heap.size ∧ (bs ≠ [] → gm < w.heap.size) ∧ Lies w3 gm ao bs := by
    by_cases e : bs = []
    · exact ⟨0, by omega, fun h => absurd e h, .inl e⟩
    · have := SM.out.2.lt e
      exact ⟨g0, by omega, fun _ => SM.out.2.lt e, lk SM.out.2 T3 (fun _ => id)⟩
  have Q3 : RR w3 w2.heap.size gm bs 0 := ⟨ao, cap, by rw [hw3.out]; exact heap_alloc_new _ _, hle, hmx, hL3⟩
  have hU3 := HU.out.keep T3
  have K3 := vread_any p g bs w3 (R2.keep t3 id (fun _ => id)) hU3 (by have := HG34.out; have := H2.out; omega) (by have := HG34.out; have := H2.out; omega)
  have H3 : Hid (Touch (fun _ => False) w w3 ∧ RR w3 w2.heap.size gm bs 0) := ⟨T3, Q3⟩
  have HGm : Hid (gm < w3.heap.size ∧ (bs ≠ [] → gm < w.heap.size) ∧ w3.heap.size = w2.heap.size + 1) := ⟨hgm, hgm2, z3⟩
  rw [hw3.out] at K3
  clear R2 t2 T2 t3 Q3 hL3 K2 hU3 T3 hgm hgm2 z3 zw hplt hglt hp hg
  go_wp2_with fail
  refine K3.mono ?_
  rw [← hw3.out]
  intro e w4 P4
  clear K3
  have KR : Hid (∀ W, RR W w2.heap.size gm bs 0 → w3.heap.size ≤ W.heap.size → Calls Tryd.prog 7 #[.pointer (some ⟨w2.heap.size, 0, none⟩)] W (RVPost w2.heap.size gm (partsOf bs).2.2 (errVal bs) (partsOf bs).2.1 W)) := fun W h hs => refRead_any w2.heap.size gm bs W h (by have := HGm.out; omega)
  -- the value, and what it is made of
  have HBack : Hid (errVal bs = 0 → bs = writeOf (partsOf bs).2.1 ++ (partsOf bs).2.2 ∧ (partsOf bs).2.1.good ∧ (partsOf bs).2.1.s.size ≤ 4096) := by
    intro h0
    have hf := parts_fits bs
    have h1 : (partsOf bs).1 = 0 := by
      by_cases h1 : (partsOf bs).1 = 0
      · exact h1
      · unfold errVal at h0; rw [if_pos h1] at h0; exact absurd h0 h1
    have h2 : refCheck (partsOf bs).2.1 = 0 ∧ refBits (partsOf bs).2.1.f = (partsOf bs).2.1.f := by
      unfold errVal at h0
      rw [if_neg (by simpa using h1)] at h0
      by_cases h2 : refCheck (partsOf bs).2.1 = 0 ∧ refBits (partsOf bs).2.1.f = (partsOf bs).2.1.f
      · exact h2
      · rw [if_neg h2] at h0; simp at h0
    exact ⟨read_back (r := (partsOf bs).2.2) (v := (partsOf bs).2.1) (by rw [← h1]) h2.2, (taken_of _ hf.1 h2.1).good, hf.2⟩
  generalize partsOf bs = PP at *
  obtain ⟨er0, v, rest⟩ := PP
  simp only at P4 KR HBack
  generalize errVal bs = ev at *
  have hH := H2.out
  have hG := HGm.out
  have hpg : bs ≠ [] → ¬ gm = p := fun h e => by have := hG.2.1 h; omega
  rcases P4 with ⟨h0, rfl, R4, t4⟩ | ⟨h0, rfl, R4, t4⟩
  · -- it is read
    subst h0
    have K5 := KR.out w4 (H3.out.2.keep t4 (by omega) hpg) t4.size
    have H4 : Hid (Touch (fun _ => False) w w4 ∧ Rd w4 p g rest 0) := ⟨H3.out.1.then t4 (fun k hk e => by omega), R4⟩
    obtain ⟨hback, hgood, hsz⟩ := HBack.out rfl
    have HWr : Hid (∀ q W, Wr W q [] → Calls Tryd.prog 10 #[.pointer (some ⟨q, 0, none⟩), v.val] W fun e w' => e = .returned (.tuple #[]) ∧ WrPost q (writeOf v) W w') := fun q W hW => v_write q [] v hgood W hW (by simp; omega)
    generalize writeOf v = BA at *
    have HBk : Hid (bs = BA ++ rest) := hback
    have HNe : Hid (w2.heap.size ≠ p ∧ w2.heap.size ≠ g) := ⟨by omega, by omega⟩
    clear R4 KR H3 HBack hback hgood hsz t4 hH hpg
    obtain ⟨k, n, f, s⟩ := v
    simp only [V.val] at *
    go_wp2_with fail
    refine K5.mono ?_
    rintro e w5 (⟨_, rfl, Q5, t5⟩ | ⟨h1, _⟩)
    case inr => exact absurd rfl h1
    simp only [V.val]
    have hH := H2.out
    have R5 := H4.out.2.keep t5 (fun e => HNe.out.1 e.symm) (fun _ e => HNe.out.2 e.symm)
    have T5 : Touch (fun _ => False) w w5 := H4.out.1.then t5 (fun k hk e => by omega)
    have z5 : w2.heap.size < w5.heap.size := Q5.lt
    obtain ⟨ao6, cap6, hb6, hq1, hq2, hq3⟩ := Q5
    obtain ⟨w6, hw6⟩ : ∃ w6, Hid (w6 = (w5.alloc (.cells #[.int .i64 k, .int .i64 n, .float .f64 f, .string s] 31)).alloc (.cells #[.int .i64 k, .int .i64 n, .float .f64 f, .string s] 31)) := ⟨_, Eq.refl _⟩
    obtain ⟨xb, hxb⟩ : ∃ xb, Hid (xb = w5.heap.size) := ⟨_, Eq.refl _⟩
    have t6 : Touch (fun _ => False) w5 w6 := by rw [hw6.out]; exact ((Touch.refl _ _).alloc _).alloc _
    have z6 : w6.heap.size = xb + 1 + 1 := by rw [hw6.out, hxb.out]; simp
    have HX : Hid (w6.heap[xb]? = some (.cells #[.int .i64 k, .int .i64 n, .float .f64 f, .string s] 31)) := by
      rw [hw6.out, hxb.out]
      exact (Below.heap_alloc _ _ _ (by simp)).trans (heap_alloc_new _ _)
    have HY : Hid (w6.heap[xb + 1]? = some (.cells #[.int .i64 k, .int .i64 n, .float .f64 f, .string s] 31)) := by
      rw [hw6.out, hxb.out]
      have := heap_alloc_new (w5.alloc (.cells #[.int .i64 k, .int .i64 n, .float .f64 f, .string s] 31)) (.cells #[.int .i64 k, .int .i64 n, .float .f64 f, .string s] 31)
      unfold Hid
      simpa using this
    have HB6 : Hid (w6.heap[w2.heap.size]? = some (.cells #[.slice ao6 rest.length cap6, .int .i64 0] 28)) := (t6.block _ z5 id).trans hb6
    have HR6 : Hid (Rd w6 p g rest 0) := R5.keep t6 id (fun _ => id)
    have HT6 : Hid (Touch (fun _ => False) w w6) := T5.trans t6
    have HBits : Hid (∀ W, Calls Tryd.prog 9 #[.agg #[.int .i64 k, .int .i64 n, .float .f64 f, .string s], .agg #[.int .i64 k, .int .i64 n, .float .f64 f, .string s]] W fun e w' => e = .returned (.bool true) ∧ Touch (fun _ => False) W w') := l_bits k n f s
    have HZ : Hid (w.heap.size ≤ w2.heap.size ∧ w2.heap.size < xb ∧ p < w2.heap.size ∧ g < w2.heap.size) := ⟨by omega, by rw [hxb.out]; exact z5, by omega, by omega⟩
    clear R5 T5 hb6 hq1 hq2 hq3 t5 t6 z6 z5 K5 H4 hH hG
    go_wp2_with fail
    rw [← hw6.out, ← hxb.out]
    clear hw6 hxb
    have hb0 := boxesE_keep (w0 := w) (A := xb) (B := xb + 1) (s := w2.heap.size) (er := 0) (k := k) (n := n) (f := f) (t := s) (k2 := k) (n2 := n) (f2 := f) (t2 := s) (w := w6) (w' := w6.drew) ⟨by rw [cell_of_block HB6.out]; rfl, by rw [cell_of_block HX.out]; rfl, by rw [cell_of_block HX.out]; rfl, by rw [cell_of_block HX.out]; rfl, by rw [cell_of_block HX.out]; rfl, by rw [cell_of_block HY.out]; rfl, by rw [cell_of_block HY.out]; rfl, by rw [cell_of_block HY.out]; rfl, by rw [cell_of_block HY.out]; rfl, HT6.out⟩ (Touch.refl _ _).drew
    have HR : Hid (Rd w6.drew p g rest 0) := HR6.out.drew
    have HTc : Hid (Touch (fun _ => False) w6 w6.drew) := (Touch.refl _ _).drew
    clear HR6
    go_region_held3 (fun w' => w'.cell? ⟨w2.heap.size, 1, none⟩ = some (.int .i64 0) ∧ w'.cell? ⟨xb, 0, none⟩ = some (.int .i64 k) ∧ w'.cell? ⟨xb, 1, none⟩ = some (.int .i64 n) ∧ w'.cell? ⟨xb, 2, none⟩ = some (.float .f64 f) ∧ w'.cell? ⟨xb, 3, none⟩ = some (.string s) ∧ w'.cell? ⟨xb + 1, 0, none⟩ = some (.int .i64 k) ∧ w'.cell? ⟨xb + 1, 1, none⟩ = some (.int .i64 n) ∧ w'.cell? ⟨xb + 1, 2, none⟩ = some (.float .f64 f) ∧ w'.cell? ⟨xb + 1, 3, none⟩ = some (.string s) ∧ Hid (Touch (fun _ => False) w w')) (assumption)
      (first
        | (go_at_call 8; (with_reducible refine (err_any p g rest 0 _ HR.out).mono ?_); rintro e w' ⟨rfl, rfl⟩)
        | (go_at_call 9; (with_reducible refine (HBits.out _).mono ?_); rintro e w' ⟨rfl, hT⟩; have hS2 := boxesE_keep (by assumption) hT; have HR : Hid (Rd w' p g rest 0) := HR.out.keep hT id (fun _ => id); have HTc : Hid (Touch (fun _ => False) w6 w') := HTc.out.trans hT; clear hT))
    obtain ⟨d0, d1, d2, d3, d4, d5, d6, d7, d8, HT7⟩ := hS2
    obtain ⟨w7, hw7⟩ : ∃ w7, w7 = w' := ⟨_, rfl⟩
    rw [← hw7] at d0 d1 d2 d3 d4 HT7 HR HTc ⊢
    have HB7 : Hid (w7.heap[w2.heap.size]? = some (.cells #[.slice ao6 rest.length cap6, .int .i64 0] 28)) := (HTc.out.block _ (lt_of_heap HB6.out) id).trans HB6.out
    have HZ7 : Hid (xb < w7.heap.size) := World.block_lt_of_cell? _ _ d1
    clear hw7 d5 d6 d7 d8 HTc hb0 HB6 HX HY HT6
    have a1 := old1 (.cells #[.slice none 0 0] 38) d1
    have a2 := old1 (.cells #[.slice none 0 0] 38) d2
    have a3 := old1 (.cells #[.slice none 0 0] 38) d3
    have a4 := old1 (.cells #[.slice none 0 0] 38) d4
    have HN7 : Hid (Wr (w7.alloc (.cells #[.slice none 0 0] 38)) w7.heap.size []) := Wr.new2 w7
    have HW7 : Hid ((w7.alloc (.cells #[.slice none 0 0] 38)).heap[w7.heap.size]? = some (.cells #[.slice none 0 0] 38)) := heap_alloc_new _ _
    go_wp2_with fail
    refine (HWr.out _ _ HN7.out).mono ?_
    rintro e w8 ⟨rfl, hP⟩
    have hZ := HZ.out
    have hZ7 := HZ7.out
    have hT8 : Touch (· = w7.heap.size) (w7.alloc (.cells #[.slice none 0 0] 38)) w8 := hP.touch.mono (fun k _ hf => wfoot_nil HW7.out hf)
    have hTa : Touch (fun _ => False) w7 (w7.alloc (.cells #[.slice none 0 0] 38)) := (Touch.refl _ _).alloc _
    have hR8 : Rd w8 p g rest 0 := (HR.out.alloc _).keep hT8 (by omega) (fun _ => by omega)
    have hT08 : Touch (fun _ => False) w w8 := (HT7.out.trans hTa).then hT8 (fun k hk e => by have := HT7.out.size; omega)
    have hb8 : w8.heap[w2.heap.size]? = some (.cells #[.slice ao6 rest.length cap6, .int .i64 0] 28) := (hT8.block _ (by simp; omega) (by omega)).trans ((hTa.block _ (by omega) id).trans HB7.out)
    have e0 : w8.cell? ⟨w2.heap.size, 0, none⟩ = some (.slice ao6 rest.length cap6) := by rw [cell_of_block hb8]; rfl
    have HW8 : Hid (Wr w8 w7.heap.size BA) := hP.is
    have HR : Hid (Rd w8.drew p g rest 0) := hR8.drew
    have hlen : bs.length = BA.length + rest.length := by rw [HBk.out]; simp
    obtain ⟨c, hc⟩ : ∃ c : Nat, c = BA.length := ⟨_, rfl⟩
    have hsub : (bs.length : Int) - (rest.length : Int) = (c : Int) := by omega
    have HSl : ∀ W, (Instr.slice 22 (.slice ao bs.length cap) none (some (.int .i64 (c : Int))) none).run Tryd.prog W = .ok (.slice ao c cap) W := fun W => sliceB_to ao bs.length cap c (by omega) W
    have hw1 : wrap64 ((bs.length : Int) - (rest.length : Int)) = (c : Int) := by rw [hsub, wrap64]; omega
    have hw2 : IntKind.i64.wrap ((bs.length : Int) - (rest.length : Int)) = (c : Int) := by rw [IntKind.wrap_i64]; omega
    have HLb : Hid (BA.length ≤ 140737488355328 ∧ c = BA.length) := ⟨by omega, hc⟩
    have HLies : Hid (∀ W, Touch (fun _ => False) w W → Lies W g0 ao BA) := fun W t => by
      have h1 := (SM.out.2.take BA.length).keep (w' := W) fun e => t.block _ ((SM.out.2.take BA.length).lt e) id
      have h2 : bs.take BA.length = BA := by rw [HBk.out]; simp
      rw [h2] at h1
      exact h1
    have hS0 : w8.drew.cell? ⟨w2.heap.size, 0, none⟩ = some (.slice ao6 rest.length cap6) ∧ Hid (Touch (fun _ => False) w w8.drew) := ⟨e0, hT08.drew⟩
    have HW : Hid (Wr w8.drew w7.heap.size BA) := HW8.out.keep (S := fun _ => False) (Touch.refl _ _).drew (fun _ _ => id)
    have HLeft : Hid (∀ W, Rd W p g rest 0 → Calls Tryd.prog 11 #[.pointer (some ⟨p, 0, none⟩)] W fun e w' => e = .returned (.int .i64 rest.length) ∧ w' = W) := fun W h => left_any p g rest 0 W h
    have eL : ((rest.length : Int) == (rest.length : Int)) = true := by simp
    clear hP hT8 hTa hR8 hT08 hb8 HW8 HN7 HW7 hlen hc hsub a1 a2 a3 a4 d0 d1 d2 d3 d4 HB7 HT7 hZ hZ7
    generalize rest.length = L at *
    generalize bs.length = M at *
    go_wp2_with fail
    go_region_held3 (fun w' => w'.cell? ⟨w2.heap.size, 0, none⟩ = some (.slice ao6 L cap6) ∧ Hid (Touch (fun _ => False) w w')) (assumption)
      (first
        | (go_at_call 11; (with_reducible refine (HLeft.out _ HR.out).mono ?_); rintro e w' ⟨rfl, rfl⟩)
        | (go_at_call 13; (with_reducible refine (wbytes_any _ BA _ HW.out HLb.out.1).mono ?_); rintro e w' ⟨v5, rfl, hown, hT⟩; obtain ⟨ao5, cap5, g5, rfl, hL5, hno5, hX⟩ := lies_of_owned hown; have HL5 : Hid (Lies w' g5 ao5 BA) := hL5; have hS2 := boxS_keep (by assumption) hT; have HR : Hid (Rd w' p g rest 0) := HR.out.keep hT id (fun _ => id); clear hX hL5 hno5 hown hT)
        | (go_at_call 12; (with_reducible refine (help_bytes _ _ _ _ BA BA _ _ _ _ rfl HLb.out.2 _ HL5.out (HLies.out _ (boxS_touch (by assumption)))).mono ?_); rintro e w' ⟨rfl, rfl⟩))
    have eBA : (BA == BA) = true := by simp
    go_wp2_with fail
    go_ret
    exact ⟨rfl, boxS_touch hS2⟩
  · -- it is refused
    have K5 := KR.out w4 (H3.out.2.keep t4 (by omega) hpg) t4.size
    have H4 : Hid (Touch (fun _ => False) w w4 ∧ Rd w4 p g bs ev) := ⟨H3.out.1.then t4 (fun k hk e => by omega), R4⟩
    have HNe : Hid (w2.heap.size ≠ p ∧ w2.heap.size ≠ g) := ⟨by omega, by omega⟩
    have H0 : Hid (ev ≠ 0) := h0
    have hz1 : (ev == 0) = false := by simpa using h0
    have hz2 : (ev == ev) = true := by simp
    clear R4 KR H3 HBack t4 hH hpg h0
    simp only [V.val, V0] at *
    go_wp2_with fail
    refine K5.mono ?_
    rintro e w5 (⟨h1, _⟩ | ⟨_, rfl, ⟨ds, Q5⟩, t5⟩)
    case inl => exact absurd h1 H0.out
    simp only [V.val, V0]
    have hH := H2.out
    have R5 := H4.out.2.keep t5 (fun e => HNe.out.1 e.symm) (fun _ e => HNe.out.2 e.symm)
    have T5 : Touch (fun _ => False) w w5 := H4.out.1.then t5 (fun k hk e => by omega)
    have z5 : w2.heap.size < w5.heap.size := Q5.lt
    obtain ⟨ao6, cap6, hb6, hq1, hq2, hq3⟩ := Q5
    obtain ⟨w6, hw6⟩ : ∃ w6, Hid (w6 = (w5.alloc (.cells #[.int .i64 0, .int .i64 0, .float .f64 0, .string ⟨#[]⟩] 31)).alloc (.cells #[.int .i64 0, .int .i64 0, .float .f64 0, .string ⟨#[]⟩] 31)) := ⟨_, Eq.refl _⟩
    obtain ⟨xb, hxb⟩ : ∃ xb, Hid (xb = w5.heap.size) := ⟨_, Eq.refl _⟩
    have t6 : Touch (fun _ => False) w5 w6 := by rw [hw6.out]; exact ((Touch.refl _ _).alloc _).alloc _
    have HX : Hid (w6.heap[xb]? = some (.cells #[.int .i64 0, .int .i64 0, .float .f64 0, .string ⟨#[]⟩] 31)) := by
      rw [hw6.out, hxb.out]
      exact (Below.heap_alloc _ _ _ (by simp)).trans (heap_alloc_new _ _)
    have HY : Hid (w6.heap[xb + 1]? = some (.cells #[.int .i64 0, .int .i64 0, .float .f64 0, .string ⟨#[]⟩] 31)) := by
      rw [hw6.out, hxb.out]
      have := heap_alloc_new (w5.alloc (.cells #[.int .i64 0, .int .i64 0, .float .f64 0, .string ⟨#[]⟩] 31)) (.cells #[.int .i64 0, .int .i64 0, .float .f64 0, .string ⟨#[]⟩] 31)
      unfold Hid
      simpa using this
    have HB6 : Hid (w6.heap[w2.heap.size]? = some (.cells #[.slice ao6 ds.length cap6, .int .i64 ev] 28)) := (t6.block _ z5 id).trans hb6
    have HR6 : Hid (Rd w6 p g bs ev) := R5.keep t6 id (fun _ => id)
    have HT6 : Hid (Touch (fun _ => False) w w6) := T5.trans t6
    have HBits : Hid (∀ W, Calls Tryd.prog 9 #[.agg #[.int .i64 0, .int .i64 0, .float .f64 0, .string ⟨#[]⟩], .agg #[.int .i64 0, .int .i64 0, .float .f64 0, .string ⟨#[]⟩]] W fun e w' => e = .returned (.bool true) ∧ Touch (fun _ => False) W w') := l_bits 0 0 0 ⟨#[]⟩
    clear R5 T5 hb6 hq1 hq2 hq3 t5 t6 z5 K5 H4 hH hG
    go_wp2_with fail
    rw [← hw6.out, ← hxb.out]
    clear hw6 hxb
    have hb0 := boxesE_keep (w0 := w) (A := xb) (B := xb + 1) (s := w2.heap.size) (er := ev) (k := 0) (n := 0) (f := 0) (t := ⟨#[]⟩) (k2 := 0) (n2 := 0) (f2 := 0) (t2 := ⟨#[]⟩) (w := w6) (w' := w6.drew) ⟨by rw [cell_of_block HB6.out]; rfl, by rw [cell_of_block HX.out]; rfl, by rw [cell_of_block HX.out]; rfl, by rw [cell_of_block HX.out]; rfl, by rw [cell_of_block HX.out]; rfl, by rw [cell_of_block HY.out]; rfl, by rw [cell_of_block HY.out]; rfl, by rw [cell_of_block HY.out]; rfl, by rw [cell_of_block HY.out]; rfl, HT6.out⟩ (Touch.refl _ _).drew
    have HR : Hid (Rd w6.drew p g bs ev) := HR6.out.drew
    clear HR6 HB6 HX HY HT6
    go_region_held3 (fun w' => w'.cell? ⟨w2.heap.size, 1, none⟩ = some (.int .i64 ev) ∧ w'.cell? ⟨xb, 0, none⟩ = some (.int .i64 0) ∧ w'.cell? ⟨xb, 1, none⟩ = some (.int .i64 0) ∧ w'.cell? ⟨xb, 2, none⟩ = some (.float .f64 0) ∧ w'.cell? ⟨xb, 3, none⟩ = some (.string ⟨#[]⟩) ∧ w'.cell? ⟨xb + 1, 0, none⟩ = some (.int .i64 0) ∧ w'.cell? ⟨xb + 1, 1, none⟩ = some (.int .i64 0) ∧ w'.cell? ⟨xb + 1, 2, none⟩ = some (.float .f64 0) ∧ w'.cell? ⟨xb + 1, 3, none⟩ = some (.string ⟨#[]⟩) ∧ Hid (Touch (fun _ => False) w w')) (assumption)
      (first
        | (go_at_call 8; (with_reducible refine (err_any p g bs ev _ HR.out).mono ?_); rintro e w' ⟨rfl, rfl⟩)
        | (go_at_call 9; (with_reducible refine (HBits.out _).mono ?_); rintro e w' ⟨rfl, hT⟩; have hS2 := boxesE_keep (by assumption) hT; have HR : Hid (Rd w' p g bs ev) := HR.out.keep hT id (fun _ => id); clear hT))
    obtain ⟨d0, d1, d2, d3, d4, d5, d6, d7, d8, HT7⟩ := hS2
    clear d1 d2 d3 d4 d5 d6 d7 d8
    go_wp2_with fail
    go_ret
    exact ⟨rfl, HT7.out⟩
end Go.Proofs.YtkiicdleoniioaaDoor
