/- The contract of quirelaw2.ValueBytes. -/
import Derived.Test.YtaihofkmcpcjeaaDoorKnown2
import Derived.Test.YtaihofkmcpcjeaaDoorPart5
import Derived.Test.YtaihofkmcpcjeaaDoorVRead
import Derived.Test.YtaihofkmcpcjeaaDoorRefWrite
import Derived.Test.YtaihofkmcpcjeaaDoorHelpB
import Derived.Test.YtaihofkmcpcjeaaDoorPart11
import Derived.Laws.AppendOwnNone
namespace Go.Proofs.YtaihofkmcpcjeaaDoor
open Go.RowKit
set_option linter.unusedVariables false
set_option linter.unusedSimpArgs false
set_option maxRecDepth 100000

theorem refClean_taken {v : V} (hv : v.taken) : refClean v = ⟨v.k, v.n, refBits v.f, v.s⟩ := by
  obtain ⟨k, n, f, s⟩ := v
  unfold refClean
  by_cases e : k = 3
  · simp only; rw [if_pos e]
  · have := hv.f e
    simp only at this
    subst this
    simp only; rw [if_neg e, show refBits 0 = 0 from by decide]
theorem taken_size {v : V} (hv : v.taken) (h : refCheck v = 0) : v.s.size ≤ 4096 := by
  obtain ⟨k, n, f, s⟩ := v
  by_cases e : k = 4
  · subst e
    have hk : vOk ⟨4, n, f, s⟩ = true := by
      unfold refCheck at h
      cases hk : vOk ⟨4, n, f, s⟩
      · rw [hk] at h; simp at h
      · rfl
    unfold vOk at hk
    simp at hk
    exact hk.1.2
  · have := hv.s e
    simp only at this
    subst this
    show 0 ≤ 4096
    omega

theorem boxes1_put {S : Nat → Prop} {w0 w w' : World} {A : Nat} {k n : Int} {f : Nat} {s : ByteArray}
    (h : w.cell? ⟨A, 0, none⟩ = some (.int .i64 k) ∧ w.cell? ⟨A, 1, none⟩ = some (.int .i64 n) ∧ w.cell? ⟨A, 2, none⟩ = some (.float .f64 f) ∧ w.cell? ⟨A, 3, none⟩ = some (.string s) ∧ Hid (Touch (fun _ => False) w0 w)) (hT : Touch S w w') (hA : ¬ S A) (h0 : Touch (fun _ => False) w0 w') : w'.cell? ⟨A, 0, none⟩ = some (.int .i64 k) ∧ w'.cell? ⟨A, 1, none⟩ = some (.int .i64 n) ∧ w'.cell? ⟨A, 2, none⟩ = some (.float .f64 f) ∧ w'.cell? ⟨A, 3, none⟩ = some (.string s) ∧ Hid (Touch (fun _ => False) w0 w') := by
  have go : ∀ (b o : Nat) (v : Value), ¬ S b → w.cell? ⟨b, o, none⟩ = some v → w'.cell? ⟨b, o, none⟩ = some v := fun b o v hb hv => (hT.cell (World.block_lt_of_cell? _ _ hv) hb o).trans hv
  obtain ⟨h1, h2, h3, h4, h9⟩ := h
  exact ⟨go _ _ _ hA h1, go _ _ _ hA h2, go _ _ _ hA h3, go _ _ _ hA h4, h0⟩

set_option maxHeartbeats 4000000 in
theorem valueBytes_any (w : World) (x : V) (fx : x.fits) (g : Nat) (ao : Option Addr) (bs : List UInt8) (nn cap : Nat) (hn : nn = bs.length) (hno : ao = none → cap = 0) (hL : Lies w g ao bs) (hg : bs ≠ [] → g < w.heap.size) (hl : bs.length ≤ 9223372036854775807) (hU : TabsU w) :
    Calls Tryd.prog 6 #[x.val, .slice ao nn cap] w fun e w' => e = .returned (.bool true) ∧ Touch (fun _ => False) w w' := by
  subst hn
  have HU : Hid (TabsU w) := hU
  have HG34 : Hid (Tryd.lays196_ren.g 3 < w.heap.size ∧ Tryd.lays196_ren.g 4 < w.heap.size) := ⟨World.block_lt_of_cell? _ _ (hU.1 0 (by decide)), World.block_lt_of_cell? _ _ (hU.2 0 (by decide)).1⟩
  have HM : Hid (Lies w g ao bs) := hL
  have HNo : Hid (ao = none → cap = 0) := hno
  have HGl : Hid (bs ≠ [] → g < w.heap.size) := hg
  clear hU hL hg hno
  have HCa : Hid (x.s.size ≤ 6000 → ∀ w, Calls Tryd.prog 13 #[x.val] w fun e w' => e = .returned (.int .i64 (refCheck x)) ∧ Touch (fun _ => False) w w') := fun h w => ref_check x (by omega) w
  have HXa : Hid (refCheck x = 0 ∨ refCheck x = 20) := by
    unfold refCheck; split
    · exact .inl rfl
    · exact .inr rfl
  have HKa : Hid (refCheck x = 0 → x.taken) := taken_of x fx
  have HWx : Hid (x.taken → x.s.size ≤ 6000 → ∀ p w, Wr w p [] → Calls Tryd.prog 21 #[.pointer (some ⟨p, 0, none⟩), x.val] w fun e w' => e = .returned (.tuple #[]) ∧ WrPost p (writeOf x) w w') := fun h hs p w hw => v_write p [] x h.good w hw (by simp; omega)
  have HRx : Hid (x.taken → x.s.size ≤ 6000 → ∀ w, Calls Tryd.prog 24 #[.slice none 0 0, x.val] w fun e w' => ∃ v', e = .returned v' ∧ Grow (.slice none 0 0) v' (writeOf x) w w') := fun h hs w => ref_write x h.good w (by omega)
  have HRd : Hid (x.taken → refCheck x = 0 → ∀ p g w, Rd w p g (writeOf x ++ bs) 0 → TabsU w → p ≠ Tryd.lays196_ren.g 3 → p ≠ Tryd.lays196_ren.g 4 → Calls Tryd.prog 27 #[.pointer (some ⟨p, 0, none⟩)] w fun e w' => e = .returned (V.val ⟨x.k, x.n, refBits x.f, x.s⟩) ∧ Rd w' p g bs 0 ∧ Touch (· = p) w w') := fun h hc p g w hr hu h3 h4 => v_read_good p g x h hc (taken_size h hc) bs w hr hu h3 h4
  have HCl : Hid (x.taken → ∀ w, Calls Tryd.prog 30 #[x.val] w fun e w' => e = .returned (V.val ⟨x.k, x.n, refBits x.f, x.s⟩) ∧ Touch (fun _ => False) w w') := by
    intro h w
    refine (ref_clean x w).mono ?_
    rintro e w' ⟨rfl, rfl⟩
    exact ⟨by rw [refClean_taken h], ((Touch.refl _ _).alloc _).alloc _⟩
  have HLa : Hid (x.s.size ≤ 6000 → (writeOf x).length ≤ 6020) := fun h => by have := writeOf_len x; omega
  generalize refCheck x = Ra at *
  generalize writeOf x = BA at *
  clear fx
  obtain ⟨k, n, f, s⟩ := x
  simp only [V.val] at *
  generalize refBits f = F at *
  have HBits : Hid (∀ w, Calls Tryd.prog 15 #[.agg #[.int .i64 k, .int .i64 n, .float .f64 F, .string s], .agg #[.int .i64 k, .int .i64 n, .float .f64 F, .string s]] w fun e w' => e = .returned (.bool true) ∧ Touch (fun _ => False) w w') := l_bits k n F s
  have hnot : ∀ (x : Bool) (w : World), (Op.unary .not (.bool x)).run Tryd.prog w = .ok (.bool (!x)) w := fun _ _ => rfl
  have hst := run_store_f64 Tryd.prog
  go_enter Tryd.func6, Tryd.ntmps6
  go_wp2_with fail
  refine (known2 _).mono ?_
  rintro e w1 ⟨rfl, hT⟩
  have hbox := boxes1_keep (w0 := w) (A := w.heap.size) (k := k) (n := n) (f := f) (s := s) ⟨new1 w _ _ 0, new1 w _ _ 1, new1 w _ _ 2, new1 w _ _ 3, (Touch.refl _ _).alloc _⟩ hT
  have HM' : Hid (Lies w1 g ao bs) := (HM.out.alloc' (.cells #[.int .i64 k, .int .i64 n, .float .f64 f, .string s] 24)).keep (fun e => hT.block _ ((HM.out.alloc' (.cells #[.int .i64 k, .int .i64 n, .float .f64 f, .string s] 24)).lt e) id)
  clear hT HM
  have HM := HM'
  clear HM'
  obtain ⟨c1, c2, c3, c4, HT1⟩ := hbox
  by_cases l1 : s.size ≤ 6000
  case neg =>
    go_wp2_with fail
    refine (l_light _ _ _ _ _).mono ?_
    rintro e w2 ⟨rfl, rfl⟩
    rw [decide_eq_false l1]
    have HT2 : Hid (Touch (fun _ => False) w (w1.alloc (.cells #[.int .i64 k, .int .i64 n, .float .f64 f, .string s] 24))) := HT1.out.alloc _
    clear l1
    go_wp2_with fail
    go_ret
    exact ⟨rfl, HT2.out⟩
  go_wp2_with fail
  refine (l_light _ _ _ _ _).mono ?_
  rintro e w2 ⟨rfl, hw⟩
  rw [decide_eq_true l1]
  have hT : Touch (fun _ => False) w1 w2 := by rw [hw]; exact (Touch.refl _ _).alloc _
  have L1 : Hid (s.size ≤ 6000) := l1
  clear hw l1
  have hbox := boxes1_keep ⟨c1, c2, c3, c4, HT1⟩ hT
  have HM' : Hid (Lies w2 g ao bs) := HM.out.keep (fun e => hT.block _ (HM.out.lt e) id)
  clear c1 c2 c3 c4 HT1 HM
  have HM := HM'
  clear HM'
  obtain ⟨c1, c2, c3, c4, HT1⟩ := hbox
  clear hT
  by_cases hm : 1000 < bs.length
  · go_wp2_with fail
    go_ret
    exact ⟨rfl, HT1.out⟩
  go_wp2_with fail
  refine (HCa.out L1.out _).mono ?_
  rintro e w3 ⟨rfl, hT⟩
  have hbox := boxes1_keep ⟨c1, c2, c3, c4, HT1⟩ hT
  have HM' : Hid (Lies w3 g ao bs) := HM.out.keep (fun e => hT.block _ (HM.out.lt e) id)
  clear c1 c2 c3 c4 HT1 HM
  have HM := HM'
  clear HM'
  obtain ⟨c1, c2, c3, c4, HT1⟩ := hbox
  clear hT
  by_cases zR : Ra = 0
  case neg =>
    have zz : Ra = 20 := HXa.out.resolve_left zR
    subst zz
    clear zR
    go_wp2_with fail
    go_ret
    exact ⟨rfl, HT1.out⟩
  subst zR
  have tx := HKa.out (by first | rfl | trivial)
  have HW : Hid (∀ p w, Wr w p [] → Calls Tryd.prog 21 #[.pointer (some ⟨p, 0, none⟩), .agg #[.int .i64 k, .int .i64 n, .float .f64 f, .string s]] w fun e w' => e = .returned (.tuple #[]) ∧ WrPost p BA w w') := HWx.out tx L1.out
  have HR : Hid (∀ w, Calls Tryd.prog 24 #[.slice none 0 0, .agg #[.int .i64 k, .int .i64 n, .float .f64 f, .string s]] w fun e w' => ∃ v', e = .returned v' ∧ Grow (.slice none 0 0) v' BA w w') := HRx.out tx L1.out
  have HRead : Hid (∀ p g w, Rd w p g (BA ++ bs) 0 → TabsU w → p ≠ Tryd.lays196_ren.g 3 → p ≠ Tryd.lays196_ren.g 4 → Calls Tryd.prog 27 #[.pointer (some ⟨p, 0, none⟩)] w fun e w' => e = .returned (.agg #[.int .i64 k, .int .i64 n, .float .f64 F, .string s]) ∧ Rd w' p g bs 0 ∧ Touch (· = p) w w') := HRd.out tx (by first | rfl | trivial)
  have HClean : Hid (∀ w, Calls Tryd.prog 30 #[.agg #[.int .i64 k, .int .i64 n, .float .f64 f, .string s]] w fun e w' => e = .returned (.agg #[.int .i64 k, .int .i64 n, .float .f64 F, .string s]) ∧ Touch (fun _ => False) w w') := HCl.out tx
  have HLen : Hid (BA.length ≤ 6020 ∧ bs.length ≤ 1000) := ⟨HLa.out L1.out, by omega⟩
  clear tx HWx HRx HRd HCl HLa HKa HXa HCa L1 hm hl
  have hsz3 : w.heap.size < w3.heap.size := World.block_lt_of_cell? _ _ c1
  have HSZ : Hid (w.heap.size < w3.heap.size) := hsz3
  have hN5 := Wr.new2 w3
  have HB5 : Hid ((w3.alloc (.cells #[.slice none 0 0] 42)).heap[w3.heap.size]? = some (.cells #[.slice none 0 0] 42)) := heap_alloc_new _ _
  have HN5 : Hid (Wr (w3.alloc (.cells #[.slice none 0 0] 42)) w3.heap.size []) := hN5
  have hT : Touch (fun _ => False) w3 (w3.alloc (.cells #[.slice none 0 0] 42)) := (Touch.refl _ _).alloc _
  have hbox := boxes1_keep ⟨c1, c2, c3, c4, HT1⟩ hT
  have HM' : Hid (Lies (w3.alloc (.cells #[.slice none 0 0] 42)) g ao bs) := HM.out.keep (fun e => hT.block _ (HM.out.lt e) id)
  clear c1 c2 c3 c4 HT1 HM
  have HM := HM'
  clear HM'
  obtain ⟨c1, c2, c3, c4, HT1⟩ := hbox
  clear hT hN5 hsz3
  go_wp2_with fail
  refine (HW.out _ _ HN5.out).mono ?_
  rintro e w4 ⟨rfl, hP⟩
  have hszp := HSZ.out
  have hTS : Touch (· = w3.heap.size) (w3.alloc (.cells #[.slice none 0 0] 42)) w4 := hP.touch.mono (fun k _ hf => wfoot_nil HB5.out hf)
  have hT04 : Touch (fun _ => False) w w4 := HT1.out.then hTS (fun k hk e => by omega)
  have hbox := boxes1_put ⟨c1, c2, c3, c4, HT1⟩ hTS (show ¬ (w.heap.size = w3.heap.size) by omega) hT04
  have HM' : Hid (Lies w4 g ao bs) := HM.out.keep (fun e => hTS.block _ (HM.out.lt e) (show ¬ (g = w3.heap.size) by have := HGl.out e; omega))
  have HW5 : Hid (Wr w4 w3.heap.size BA) := hP.is
  clear hP hTS hT04 HB5 HN5 c1 c2 c3 c4 HT1 HM hszp HW
  have HM := HM'
  clear HM'
  obtain ⟨c1, c2, c3, c4, HT1⟩ := hbox
  have HLb : Hid (BA.length ≤ 140737488355328) := by have := HLen.out; rw [Hid]; omega
  go_wp2_with fail
  refine (wbytes_any _ BA _ HW5.out HLb.out).mono ?_
  rintro e w5 ⟨v5, rfl, hown, hT⟩
  obtain ⟨ao5, cap5, g5, rfl, hL5, hno5, hX⟩ := lies_of_owned hown
  have HL5 : Hid (Lies w5 g5 ao5 BA) := hL5
  have HN5 : Hid (ao5 = none → cap5 = 0) := hno5
  clear hX hL5 hno5 hown HW5
  have hbox := boxes1_keep ⟨c1, c2, c3, c4, HT1⟩ hT
  have HM' : Hid (Lies w5 g ao bs) := HM.out.keep (fun e => hT.block _ (HM.out.lt e) id)
  clear c1 c2 c3 c4 HT1 HM
  have HM := HM'
  clear HM'
  obtain ⟨c1, c2, c3, c4, HT1⟩ := hbox
  clear hT
  go_wp2_with fail
  refine (HR.out _).mono ?_
  rintro e w6 ⟨v6, rfl, hG⟩
  have hT : Touch (fun _ => False) w5 w6 := hG.touch.mono (fun _ _ h => by simp [Value.ownBlock] at h)
  obtain ⟨ao6, cap6, g6, rfl, hL6, hno6, hX⟩ := lies_of_owned hG.is
  have HL6 : Hid (Lies w6 g6 ao6 BA) := hL6
  have HL5' : Hid (Lies w6 g5 ao5 BA) := HL5.out.keep (fun e => hT.block _ (HL5.out.lt e) id)
  clear hX hL6 hno6 hG HL5 HR
  have hbox := boxes1_keep ⟨c1, c2, c3, c4, HT1⟩ hT
  have HM' : Hid (Lies w6 g ao bs) := HM.out.keep (fun e => hT.block _ (HM.out.lt e) id)
  clear c1 c2 c3 c4 HT1 HM
  have HM := HM'
  clear HM'
  obtain ⟨c1, c2, c3, c4, HT1⟩ := hbox
  clear hT
  have eBA : (BA == BA) = true := by simp
  go_wp2_with fail
  refine (help_bytes _ _ _ _ _ _ _ _ _ _ rfl rfl _ HL5'.out HL6.out).mono ?_
  rintro e w7 ⟨rfl, hw7⟩
  rw [hw7]
  clear hw7
  go_wp2_with fail
  refine (help_copy _ _ BA _ _ rfl HN5.out _ HL5'.out HLb.out).mono ?_
  rintro e w7 ⟨v7, rfl, hown7, hT7⟩
  obtain ⟨i0, hi, hz0, hz1, hz2⟩ := info_parts Tryd.infoByte
  have HM7 : Hid (Lies w7 g ao bs) := HM.out.keep (fun e => hT7.block _ (HM.out.lt e) id)
  have HT7 : Hid (Touch (fun _ => False) w6 w7) := hT7
  clear HL5' HL6 HN5 hT7
  have HA : Hid (∀ v8 w8, w8.ownsRow w6.heap.size 5 1 v8 (BA.length + bs.length) (cellsOf BA ++ cellsOf bs) → w7.grownBy w8 v7.ownBlock → Touch (fun _ => False) w6 w8 ∧ w8.ownsRow w6.heap.size 5 1 v8 (BA ++ bs).length (cellsOf (BA ++ bs))) := by
    intro v8 w8 h8 hgr
    refine ⟨HT7.out.grown hgr (fun i e hi => ?_), by rw [cellsOf_append, List.length_append]; exact h8⟩
    rcases hown7.2 with ⟨rfl, _⟩ | ⟨q, c, cur, rfl, hq, _⟩
    · simp [Value.ownBlock] at e
    · simp only [Value.ownBlock, Option.some.injEq] at e; omega
  have hlen := HLen.out
  cases ao with
  | none =>
    have hbs : bs = [] := by
      rcases HM7.out with h | ⟨off, e, _⟩
      · exact h
      · cases e
    have hc := HNo.out rfl
    subst hc
    have hown8' : w7.ownsRow w6.heap.size 5 1 v7 (BA ++ bs).length (cellsOf (BA ++ bs)) := by rw [hbs, List.append_nil]; exact hown7
    have hT : Touch (fun _ => False) w6 w7 := HT7.out
    subst hbs
    go_wp2_with (first | (at_builtin; refine wpList_append_own_none rfl _ _ 40 rfl w6.heap.size 5 i0 1 Tryd.underlying40 hi _ _ _ rfl hown7 rfl ?_))
    clear HA HM7 HT7 hown7
    have hbox := boxes1_keep ⟨c1, c2, c3, c4, HT1⟩ hT
    clear c1 c2 c3 c4 HT1 HM hT hi hz0 hz1 hz2
    obtain ⟨c1, c2, c3, c4, HT1⟩ := hbox
    obtain ⟨ao8, cap8, g8, rfl, hL8, hno8, hX⟩ := lies_of_owned hown8'
    have HL8 : Hid (Lies w7 g8 ao8 (BA ++ ([] : List UInt8))) := hL8
    have HN8 : Hid (ao8 = none → cap8 = 0) := hno8
    have HSZ8 : Hid (w.heap.size < w7.heap.size) := World.block_lt_of_cell? _ _ c1
    have HLL : Hid ((BA ++ ([] : List UInt8)).length ≤ 140737488355328) := by rw [Hid, List.length_append]; omega
    clear hX hL8 hno8 hown8' hlen
    go_wp2_with fail
    refine (newReader_any g8 ao8 (BA ++ ([] : List UInt8)) _ cap8 rfl HN8.out _ HL8.out HLL.out).mono ?_
    rintro e w9 ⟨p, g4, rfl, hR, hp, hg4, hT⟩
    have HR : Hid (Rd w9 p g4 (BA ++ ([] : List UInt8)) 0) := hR
    have HP : Hid (w.heap.size < p) := by have := HSZ8.out; rw [Hid]; omega
    have hbox := boxes1_keep ⟨c1, c2, c3, c4, HT1⟩ hT
    clear c1 c2 c3 c4 HT1 hT HL8 HN8 HSZ8 HLL hR hp hg4
    obtain ⟨c1, c2, c3, c4, HT1⟩ := hbox
    go_wp2_with fail
    refine (HRead.out p g4 _ HR.out (HU.out.keep HT1.out) (by have := HP.out; have := HG34.out; omega) (by have := HP.out; have := HG34.out; omega)).mono ?_
    rintro e w12 ⟨rfl, hR, hT⟩
    have hT02 : Touch (fun _ => False) w w12 := HT1.out.then hT (fun k hk e => by have := HP.out; omega)
    have hbox := boxes1_put ⟨c1, c2, c3, c4, HT1⟩ hT (show ¬ (w.heap.size = p) by have := HP.out; omega) hT02
    have HR' : Hid (Rd w12 p g4 ([] : List UInt8) 0) := hR
    clear c1 c2 c3 c4 HT1 hT HR HRead hR HP hT02
    have HR := HR'
    clear HR'
    obtain ⟨c1, c2, c3, c4, HT1⟩ := hbox
    have a1 := old1 (.cells #[.int .i64 k, .int .i64 n, .float .f64 F, .string s] 24) c1
    have a2 := old1 (.cells #[.int .i64 k, .int .i64 n, .float .f64 F, .string s] 24) c2
    have a3 := old1 (.cells #[.int .i64 k, .int .i64 n, .float .f64 F, .string s] 24) c3
    have a4 := old1 (.cells #[.int .i64 k, .int .i64 n, .float .f64 F, .string s] 24) c4
    have eL : ((([] : List UInt8).length : Int) == (([] : List UInt8).length : Int)) = true := by simp
    go_wp2_with fail
    have hb2 := boxes2_keep (w0 := w) (A := w.heap.size) (B := w12.heap.size) (w := w12.alloc (.cells #[.int .i64 k, .int .i64 n, .float .f64 F, .string s] 24)) (w' := (w12.alloc (.cells #[.int .i64 k, .int .i64 n, .float .f64 F, .string s] 24)).drew) ⟨old1 _ c1, old1 _ c2, old1 _ c3, old1 _ c4, new1 _ _ _ 0, new1 _ _ _ 1, new1 _ _ _ 2, new1 _ _ _ 3, HT1.out.alloc _⟩ (Touch.refl _ _).drew
    have HR' : Hid (Rd (w12.alloc (.cells #[.int .i64 k, .int .i64 n, .float .f64 F, .string s] 24)).drew p g4 ([] : List UInt8) 0) := (HR.out.alloc _).drew
    clear c1 c2 c3 c4 HT1 a1 a2 a3 a4 HR
    have HR := HR'
    clear HR'
    go_region_held3 (fun w' => w'.cell? ⟨w.heap.size, 0, none⟩ = some (.int .i64 k) ∧ w'.cell? ⟨w.heap.size, 1, none⟩ = some (.int .i64 n) ∧ w'.cell? ⟨w.heap.size, 2, none⟩ = some (.float .f64 f) ∧ w'.cell? ⟨w.heap.size, 3, none⟩ = some (.string s) ∧ w'.cell? ⟨w12.heap.size, 0, none⟩ = some (.int .i64 k) ∧ w'.cell? ⟨w12.heap.size, 1, none⟩ = some (.int .i64 n) ∧ w'.cell? ⟨w12.heap.size, 2, none⟩ = some (.float .f64 F) ∧ w'.cell? ⟨w12.heap.size, 3, none⟩ = some (.string s) ∧ Hid (Touch (fun _ => False) w w')) (assumption)
      (first
        | (go_at_call 28; (with_reducible refine (err_any p g4 ([] : List UInt8) 0 _ HR.out).mono ?_); rintro e w' ⟨rfl, rfl⟩)
        | (go_at_call 29; (with_reducible refine (left_any p g4 ([] : List UInt8) 0 _ HR.out).mono ?_); rintro e w' ⟨rfl, rfl⟩)
        | (go_at_call 30; (with_reducible refine (HClean.out _).mono ?_); rintro e w' ⟨rfl, hT⟩; have hS2 := boxes2_keep (by assumption) hT; have HR : Hid (Rd w' p g4 ([] : List UInt8) 0) := HR.out.keep hT id (fun _ => id); clear hT)
        | (go_at_call 15; (with_reducible refine (HBits.out _).mono ?_); rintro e w' ⟨rfl, hT⟩; have hS2 := boxes2_keep (by assumption) hT; have HR : Hid (Rd w' p g4 ([] : List UInt8) 0) := HR.out.keep hT id (fun _ => id); clear hT))
    obtain ⟨d1, d2, d3, d4, d5, d6, d7, d8, HT5⟩ := hS2
    clear d1 d2 d3 d4 d5 d6 d7 d8
    go_wp2_with fail
    go_ret
    exact ⟨rfl, HT5.out⟩
  | some a =>
    have HSrc : Hid (∀ j u, (cellsOf bs)[j]? = some u → w7.cell? (a.add j) = some u) := HM7.out.cells
    go_wp2_with (first | (at_builtin; refine wpList_append_own _ rfl _ _ 40 rfl w6.heap.size 5 i0 (.int .u8 0) 1 1 Tryd.underlying40 hi hz0 hz1 hz2 rfl (by decide) _ _ _ rfl hown7 a bs.length cap (cellsOf bs) rfl ?c0 ?c1 ?c2 ?c3 ?c4 ?c5 ?_))
    case c0 => rw [cellsOf_length]; omega
    case c1 => exact HSrc.out
    case c2 => exact cellsOf_one bs
    case c3 => unfold maxLen; omega
    case c4 => omega
    case c5 => exact HT7.out.size
    intro v8 w8 hown8 hgrow _
    obtain ⟨hT, hown8'⟩ := HA.out v8 w8 hown8 hgrow
    clear HA HM7 HT7 hown7 hown8 hgrow HSrc
    have hbox := boxes1_keep ⟨c1, c2, c3, c4, HT1⟩ hT
    clear c1 c2 c3 c4 HT1 HM hT hi hz0 hz1 hz2
    obtain ⟨c1, c2, c3, c4, HT1⟩ := hbox
    obtain ⟨ao8, cap8, g8, rfl, hL8, hno8, hX⟩ := lies_of_owned hown8'
    have HL8 : Hid (Lies w8 g8 ao8 (BA ++ bs)) := hL8
    have HN8 : Hid (ao8 = none → cap8 = 0) := hno8
    have HSZ8 : Hid (w.heap.size < w8.heap.size) := World.block_lt_of_cell? _ _ c1
    have HLL : Hid ((BA ++ bs).length ≤ 140737488355328) := by rw [Hid, List.length_append]; omega
    clear hX hL8 hno8 hown8' hlen
    go_wp2_with fail
    refine (newReader_any g8 ao8 (BA ++ bs) _ cap8 List.length_append.symm HN8.out _ HL8.out HLL.out).mono ?_
    rintro e w9 ⟨p, g4, rfl, hR, hp, hg4, hT⟩
    have HR : Hid (Rd w9 p g4 (BA ++ bs) 0) := hR
    have HP : Hid (w.heap.size < p) := by have := HSZ8.out; rw [Hid]; omega
    have hbox := boxes1_keep ⟨c1, c2, c3, c4, HT1⟩ hT
    clear c1 c2 c3 c4 HT1 hT HL8 HN8 HSZ8 HLL hR hp hg4
    obtain ⟨c1, c2, c3, c4, HT1⟩ := hbox
    go_wp2_with fail
    refine (HRead.out p g4 _ HR.out (HU.out.keep HT1.out) (by have := HP.out; have := HG34.out; omega) (by have := HP.out; have := HG34.out; omega)).mono ?_
    rintro e w12 ⟨rfl, hR, hT⟩
    have hT02 : Touch (fun _ => False) w w12 := HT1.out.then hT (fun k hk e => by have := HP.out; omega)
    have hbox := boxes1_put ⟨c1, c2, c3, c4, HT1⟩ hT (show ¬ (w.heap.size = p) by have := HP.out; omega) hT02
    have HR' : Hid (Rd w12 p g4 bs 0) := hR
    clear c1 c2 c3 c4 HT1 hT HR HRead hR HP hT02
    have HR := HR'
    clear HR'
    obtain ⟨c1, c2, c3, c4, HT1⟩ := hbox
    have a1 := old1 (.cells #[.int .i64 k, .int .i64 n, .float .f64 F, .string s] 24) c1
    have a2 := old1 (.cells #[.int .i64 k, .int .i64 n, .float .f64 F, .string s] 24) c2
    have a3 := old1 (.cells #[.int .i64 k, .int .i64 n, .float .f64 F, .string s] 24) c3
    have a4 := old1 (.cells #[.int .i64 k, .int .i64 n, .float .f64 F, .string s] 24) c4
    have eL : ((bs.length : Int) == (bs.length : Int)) = true := by simp
    go_wp2_with fail
    have hb2 := boxes2_keep (w0 := w) (A := w.heap.size) (B := w12.heap.size) (w := w12.alloc (.cells #[.int .i64 k, .int .i64 n, .float .f64 F, .string s] 24)) (w' := (w12.alloc (.cells #[.int .i64 k, .int .i64 n, .float .f64 F, .string s] 24)).drew) ⟨old1 _ c1, old1 _ c2, old1 _ c3, old1 _ c4, new1 _ _ _ 0, new1 _ _ _ 1, new1 _ _ _ 2, new1 _ _ _ 3, HT1.out.alloc _⟩ (Touch.refl _ _).drew
    have HR' : Hid (Rd (w12.alloc (.cells #[.int .i64 k, .int .i64 n, .float .f64 F, .string s] 24)).drew p g4 bs 0) := (HR.out.alloc _).drew
    clear c1 c2 c3 c4 HT1 a1 a2 a3 a4 HR
    have HR := HR'
    clear HR'
    go_region_held3 (fun w' => w'.cell? ⟨w.heap.size, 0, none⟩ = some (.int .i64 k) ∧ w'.cell? ⟨w.heap.size, 1, none⟩ = some (.int .i64 n) ∧ w'.cell? ⟨w.heap.size, 2, none⟩ = some (.float .f64 f) ∧ w'.cell? ⟨w.heap.size, 3, none⟩ = some (.string s) ∧ w'.cell? ⟨w12.heap.size, 0, none⟩ = some (.int .i64 k) ∧ w'.cell? ⟨w12.heap.size, 1, none⟩ = some (.int .i64 n) ∧ w'.cell? ⟨w12.heap.size, 2, none⟩ = some (.float .f64 F) ∧ w'.cell? ⟨w12.heap.size, 3, none⟩ = some (.string s) ∧ Hid (Touch (fun _ => False) w w')) (assumption)
      (first
        | (go_at_call 28; (with_reducible refine (err_any p g4 bs 0 _ HR.out).mono ?_); rintro e w' ⟨rfl, rfl⟩)
        | (go_at_call 29; (with_reducible refine (left_any p g4 bs 0 _ HR.out).mono ?_); rintro e w' ⟨rfl, rfl⟩)
        | (go_at_call 30; (with_reducible refine (HClean.out _).mono ?_); rintro e w' ⟨rfl, hT⟩; have hS2 := boxes2_keep (by assumption) hT; have HR : Hid (Rd w' p g4 bs 0) := HR.out.keep hT id (fun _ => id); clear hT)
        | (go_at_call 15; (with_reducible refine (HBits.out _).mono ?_); rintro e w' ⟨rfl, hT⟩; have hS2 := boxes2_keep (by assumption) hT; have HR : Hid (Rd w' p g4 bs 0) := HR.out.keep hT id (fun _ => id); clear hT))
    obtain ⟨d1, d2, d3, d4, d5, d6, d7, d8, HT5⟩ := hS2
    clear d1 d2 d3 d4 d5 d6 d7 d8
    go_wp2_with fail
    go_ret
    exact ⟨rfl, HT5.out⟩
end Go.Proofs.YtaihofkmcpcjeaaDoor
