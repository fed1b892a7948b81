/- The contract of disk's Copy. -/
import Derived.Test.YtfmpbkdmcgkeoaaCopyM
import Derived.Test.YtfmpbkdmcgkeoaaPart8
import Derived.Test.YtfmpbkdmcgkeoaaBClone
import Derived.Maps.RangeWalk
import Derived.Sort.MapsRangeIn
namespace Go.Proofs.Ytfmpbkdmcgkeoaa
open Go.RowKit Go.Maps
set_option linter.unusedVariables false

/-- A copy under way: block B is the new disk, B + 1 its map, B + 2 the range over the old one's. -/
structure Copying (w wr : World) (m B n : Nat) (es : List (Key × Fl)) (room power : Int) (left : Lit → Bool) (cnt : Nat) (es' : List (Key × Fl)) : Prop where
  rg : wr.ranges Try.prog 9 heldR m (B + 2) n (toD es) left cnt
  le : cnt ≤ es.length
  own : wr.ownsMap Try.prog 9 heldR (B + 1) (es.length - cnt) (toD es')
  rel : CopyRel es es' left
  rising : Rising es'
  rows : RowsOk wr es'
  new : ∀ p ∈ es', ∀ k, p.2.v.ownBlock = some k → B + 3 ≤ k
  good : ∀ p ∈ es', Good p.2
  keys : ∀ p ∈ es', p.1.length ≤ 281474976710656
  cell : wr.heap[B]? = some (.cells #[.map (some (B + 1)), .int .i64 (used es : Int), .int .i64 room, .int .i64 power] 60 (0, 0))
  touch : Touch (fun _ => False) w wr
  size : B + 3 ≤ wr.heap.size

/-- A round of it: w1 behind the range's step, w2 behind what was made, w3 behind the store. -/
theorem Copying.step {w wr w1 w2 w3 : World} {m B n : Nat} {es es' : List (Key × Fl)} {room power : Int} {left : Lit → Bool} {cnt cnt1 : Nat} {k : Key} {v : Value} (h : Copying w wr m B n es room power left cnt es') (hB : B = w.heap.size) (hm : m < B)
    (hC : ∀ p ∈ es, Good p.2) (hk : ∀ p ∈ es, p.1.length ≤ 281474976710656) (hget : (aget k es).isSome = true)
    (hg1 : wr.grownBy w1 (some (B + 2))) (hrg1 : w1.ranges Try.prog 9 heldR m (B + 2) n (toD es) (fun z => left z && !z.sameKey (.string k)) cnt1) (hlt : cnt1 < cnt)
    (t : Touch (fun _ => False) w1 w2) (hv : w2.ownsRow w1.heap.size 5 1 v (getF k es).bs.length (cellsOf (getF k es).bs))
    (ho : w3.ownsMap Try.prog 9 heldR (B + 1) (es.length - cnt + 1) ((toD es').put (.string k) (.held (Fl.val ⟨v, (getF k es).bs, (getF k es).syn⟩)))) (hg3 : w2.grownBy w3 (some (B + 1))) :
    Copying w w3 m B n es room power (fun z => left z && !z.sameKey (.string k)) cnt1 (aput k ⟨v, (getF k es).bs, (getF k es).syn⟩ es') := by
  obtain ⟨f, hf⟩ := Option.isSome_iff_exists.1 hget
  have hgf : getF k es = f := by simp [getF, hf]
  have hmem : (k, f) ∈ es := aget_mem hf
  have hs1 := hg1.size
  have hs2 := t.size
  have hs3 := hg3.size
  have hws := h.size
  have hblk : ∀ i, i < wr.heap.size → i ≠ B + 2 → i ≠ B + 1 → w3.heap[i]? = wr.heap[i]? := by
    intro i hi h2 h1
    rw [hg3.block i (by omega) (by simpa using h1), t.block i (by omega) id, hg1.block i hi (by simpa using h2)]
  have hrow : w3.ownsRow w1.heap.size 5 1 v (getF k es).bs.length (cellsOf (getF k es).bs) := by
    refine ⟨hv.1, ?_⟩
    rcases hv.2 with e | ⟨g, cap, cur, e, hb, hg, r⟩
    · exact .inl e
    · refine .inr ⟨g, cap, cur, e, hb, ?_, r⟩
      rw [hg3.block g (lt_of_heap hg) (by simp; omega)]; exact hg
  have hvb : ∀ i, v.ownBlock = some i → w1.heap.size ≤ i := by
    intro i hi
    rcases hv.2 with ⟨e, _⟩ | ⟨g, cap, cur, e, hb, hg, r⟩
    · rw [e] at hi; simp [Value.ownBlock] at hi
    · rw [e] at hi; simp [Value.ownBlock] at hi; omega
  have hrows : RowsOk w3 es' := ⟨fun p hp => by
      refine ⟨(h.rows.row p hp).1, ?_⟩
      rcases (h.rows.row p hp).2 with e | ⟨g, cap, cur, e, hb, hg, r⟩
      · exact .inl e
      · have := h.new p hp g (by rw [e]; rfl)
        exact .inr ⟨g, cap, cur, e, hb, (hblk g (lt_of_heap hg) (by omega) (by omega)).trans hg, r⟩, h.rows.apart⟩
  refine ⟨(hrg1.kept (touch_grown t) (by simp) (by simp)).kept hg3 (by simp; omega) (by simp), by have := h.le; omega, ?_, ?_, h.rising.aput, ?_, ?_, ?_, ?_, ?_, ?_, by omega⟩
  · rw [← toD_put]; exact ho.mono (by have := h.le; omega)
  · exact copy_step h.rel (by rw [hf]; simp [Fl.abs, hgf])
  · refine (hrows.del k).put (row_base hrow (Nat.zero_le _)) ?_
    intro p hp i hi e
    obtain ⟨c, hc⟩ := row_lt (h.rows.row p (mem_adel.1 hp).1) e
    have := hvb i hi
    have := lt_of_heap hc
    omega
  · intro p hp i hi
    rcases mem_aput.1 hp with rfl | ⟨hp, _⟩
    · have := hvb i hi; omega
    · exact h.new p hp i hi
  · intro p hp
    rcases mem_aput.1 hp with rfl | ⟨hp, _⟩
    · have hG := hC _ hmem
      rw [← hgf] at hG
      refine ⟨?_, hG.2⟩
      obtain ⟨ao, cap, g, e, _⟩ := lies_of_owned (row_base hrow (Nat.zero_le _))
      exact ⟨ao, cap, e⟩
    · exact h.good p hp
  · intro p hp
    rcases mem_aput.1 hp with rfl | ⟨hp, _⟩
    · exact hk (k, f) hmem
    · exact h.keys p hp
  · rw [hblk B (by omega) (by omega) (by omega)]; exact h.cell
  · have t1 : Touch (fun i => i = B + 2) wr w1 := (Touch.refl _ wr).grown hg1 (fun i e _ => by simpa using e.symm)
    have t3 : Touch (fun i => i = B + 1) w2 w3 := (Touch.refl _ w2).grown hg3 (fun i e _ => by simpa using e.symm)
    exact ((h.touch.then t1 (fun i hi e => by omega)).then t (fun i hi e => e.elim)).then t3 (fun i hi e => by omega)

theorem makeMap_some (n : Int) (W : World) : (Instr.makeMap 58 (some (.int .i64 n))).run Try.prog W = .ok (.map (some W.heap.size)) (W.alloc (.map #[] 0)) := by kernel_rfl

set_option maxRecDepth 100000 in
set_option maxHeartbeats 800000 in
theorem copy_any {w : World} {d m : Nat} {es : List (Key × Fl)} {room power : Int} (hC : Core w d m es.length es room power) (hR : RowsOk w es) (hn : es.length ≤ 1073741823) :
    Calls Try.prog 29 #[.pointer (some ⟨d, 0, none⟩)] w fun e w' => e = .returned (.pointer (some ⟨w.heap.size, 0, none⟩)) ∧ ∃ left es', (∀ k, left k = false) ∧ Copying w w' m w.heap.size es.length es room power left 0 es' := by
  have c0 := hC.c0
  have c1 := hC.c1
  have c2 := hC.c2
  have c3 := hC.c3
  have hmk := makeMap_some (es.length : Int)
  have hln := fun ty => ((hC.alloc (.cells #[.map (some m), .int .i64 (used es : Int), .int .i64 room, .int .i64 power] 60)).owns.len Try.underlying58 ty)
  rw [toD_size] at hln
  have d1 := (hC.alloc (.cells #[.map (some m), .int .i64 (used es : Int), .int .i64 room, .int .i64 power] 60)).c0
  have hC2 : Core ((w.alloc (.cells #[.map (some (w.heap.size + 1)), .int .i64 (used es : Int), .int .i64 room, .int .i64 power] 60)).alloc (.map #[] 0)) d m es.length es room power := (hC.alloc _).alloc _
  have d2 := hC2.c0
  have hown := hC2.owns
  have e2 : ((w.alloc (.cells #[.map (some (w.heap.size + 1)), .int .i64 (used es : Int), .int .i64 room, .int .i64 power] 60)).alloc (.map #[] 0)).heap.size = w.heap.size + 2 := by simp
  have hB : ((w.alloc (.cells #[.map (some (w.heap.size + 1)), .int .i64 (used es : Int), .int .i64 room, .int .i64 power] 60)).alloc (.map #[] 0)).heap[w.heap.size]? = some (.cells #[.map (some (w.heap.size + 1)), .int .i64 (used es : Int), .int .i64 room, .int .i64 power] 60 (0, 0)) := by
    rw [heap_alloc_old _ _ (by simp)]; exact heap_alloc_new _ _
  have hmd := hC.ltm
  have hown1 : ((w.alloc (.cells #[.map (some (w.heap.size + 1)), .int .i64 (used es : Int), .int .i64 room, .int .i64 power] 60)).alloc (.map #[] 0)).ownsMap Try.prog 9 heldR (w.heap.size + 1) 0 (toD []) := by
    have := World.ownsMap_made (H := Value) (w.alloc (.cells #[.map (some (w.heap.size + 1)), .int .i64 (used es : Int), .int .i64 room, .int .i64 power] 60)) Try.prog 9 heldR
    have e1 : (w.alloc (.cells #[.map (some (w.heap.size + 1)), .int .i64 (used es : Int), .int .i64 room, .int .i64 power] 60)).heap.size = w.heap.size + 1 := by simp
    rw [e1] at this; exact this
  have t2 : Touch (fun _ => False) w ((w.alloc (.cells #[.map (some (w.heap.size + 1)), .int .i64 (used es : Int), .int .i64 room, .int .i64 power] 60)).alloc (.map #[] 0)) := ((Touch.refl _ w).alloc _).alloc _
  have HCR : Hid (Core w d m es.length es room power ∧ RowsOk w es) := ⟨hC, hR⟩
  clear hC hR hC2
  go_enter Try.func29, Try.ntmps29
  go_wp2_with (first
    | (at_range; refine wpList_range_own _ rfl _ 58 rfl 9 66 lawK Try.underlying58 _ m es.length _ rfl hown ?_; intro w0 hrg0 hg0 hs0)
    | fail)
  go_frame
  rw [e2] at hrg0 hs0 ⊢
  go_loopw [4, 5] (fun _ _ wr => ∃ left cnt es', Copying w wr m w.heap.size es.length es room power left cnt es') (fun _ _ wr => wr.rangeLeft m (w.heap.size + 2))
  case atStart =>
    rw [toD_size] at hrg0
    refine ⟨_, _, [], hrg0, Nat.le_refl _, ?_, copy_start es, List.Pairwise.nil, ⟨(fun p hp => by cases hp), (fun p hp => by cases hp)⟩, (fun p hp => by cases hp), (fun p hp => by cases hp), (fun p hp => by cases hp), ?_, ?_, by omega⟩
    · exact (hown1.kept hg0 (by simp)).mono (Nat.zero_le _)
    · rw [hg0.block _ (by omega) (by simp)]; exact hB
    · exact t2.grown hg0 (fun i e _ => by cases e)
  case round =>
    obtain ⟨left, cnt, es', hcp⟩ := hrel
    have hrg := hcp.rg
    have HCp : Hid (Copying w wr m w.heap.size es.length es room power left cnt es') := hcp
    clear hcp hrg0 hg0 hs0 hown hown1 hB d2 d1 hmk hln c0 c1 c2 c3 t2 e2
    go_wp2_with (first
      | (at_next; refine wpList_next_ranges _ rfl _ rfl 9 lawK heldR Value.string (id : Value → Value) (fun key kl h => Maps.keyOf_string_inv Try.underlying9 h) (fun v y _ => ⟨v, rfl⟩) m (w.heap.size + 2) es.length _ _ _ rfl hrg ?_ ?_)
      | fail)
    · intro hc0 hl0
      go_wp2_with fail
      go_ret
      subst hc0
      exact ⟨rfl, _, es', hl0, HCp.out⟩
    · intro x c kl y ps w1 cnt1 hkey hlk hv hat hrg1 hlt hg1 hs1 hen
      have hx : x.size ≤ maxLen ∧ kl = .string x.data.toList := by
        have h1 := hkey
        simp [keyOf, Try.underlying9, mapKey] at h1
        exact ⟨h1.1, h1.2.symm⟩
      obtain ⟨hx, rfl⟩ := hx
      have hc : c = (getF x.data.toList es).val := by
        have h1 := hat (.held zeroF.val)
        rw [toD_at] at h1
        simp only [heldR, Option.some.injEq] at hv
        simp only [Prod.mk.injEq] at hv
        rw [← hv.1] at h1
        simpa using h1.symm
      have hsome : (aget x.data.toList es).isSome = true := by rw [← toD_has]; exact has_true_of_atKey hat
      subst hc
      have hws := HCp.out.size
      have HS : Hid (w1.ranges Try.prog 9 heldR m (w.heap.size + 2) es.length (toD es) (fun z => left z && !z.sameKey (Lit.string x.data.toList)) cnt1 ∧ wr.grownBy w1 (some (w.heap.size + 2)) ∧ cnt1 < cnt ∧ (aget x.data.toList es).isSome = true) := ⟨hrg1, hg1, hlt, hsome⟩
      have tw1 : Touch (fun _ => False) w w1 := HCp.out.touch.then ((Touch.refl (fun i => i = w.heap.size + 2) wr).grown hg1 (fun i e _ => by simpa using e.symm)) (fun i hi e => by omega)
      obtain ⟨⟨ao, cap, hfv⟩, _, hfl⟩ := HCR.out.1.get x.data.toList
      obtain ⟨ao', cap', gs, hfv', hLs, hno, _⟩ := lies_of_owned (HCR.out.2.get x.data.toList)
      obtain ⟨rfl, rfl⟩ : ao = ao' ∧ cap = cap' := by rw [hfv] at hfv'; simpa using hfv'
      have hB1 : w1.heap[w.heap.size]? = some (.cells #[.map (some (w.heap.size + 1)), .int .i64 (used es : Int), .int .i64 room, .int .i64 power] 60 (0, 0)) := (hg1.block _ (by omega) (by simp)).trans HCp.out.cell
      have HLs : Hid (Lies w gs ao (getF x.data.toList es).bs) := hLs
      have HK : Hid (∀ (v : Value) (w2 w3 : World), Touch (fun _ => False) w1 w2 → w2.ownsRow w1.heap.size 5 1 v (getF x.data.toList es).bs.length (cellsOf (getF x.data.toList es).bs) → w3.ownsMap Try.prog 9 heldR (w.heap.size + 1) (es.length - cnt + 1) ((toD es').put (.string x.data.toList) (.held (Fl.val ⟨v, (getF x.data.toList es).bs, (getF x.data.toList es).syn⟩))) → w2.grownBy w3 (some (w.heap.size + 1)) → Copying w w3 m w.heap.size es.length es room power (fun z => left z && !z.sameKey (.string x.data.toList)) cnt1 (aput x.data.toList ⟨v, (getF x.data.toList es).bs, (getF x.data.toList es).syn⟩ es')) :=
        fun v w2 w3 t hv ho hg3 => HCp.out.step rfl hmd HCR.out.1.good HCR.out.1.keys hsome hg1 hrg1 hlt t hv ho hg3
      have HO : Hid (∀ w2 : World, Touch (fun _ => False) w1 w2 → w2.ownsMap Try.prog 9 heldR (w.heap.size + 1) (es.length - cnt) (toD es')) := fun w2 t => ((HCp.out.own.kept hg1 (by simp)).kept (touch_grown t) (by simp))
      clear hrg1 hg1 hlt hsome hat hv hlk hfv' hLs HCR
      generalize getF x.data.toList es = f at *
      obtain ⟨fv, bs, syn⟩ := f
      simp only at hfv hfl
      subst hfv
      have HCl : Hid (Calls Try.prog 48 #[.slice ao bs.length cap] (w1.alloc (.cells #[.slice ao bs.length cap, .int .i64 (syn : Int)] 66)) (ClonePost bs (w1.alloc (.cells #[.slice ao bs.length cap, .int .i64 (syn : Int)] 66)))) :=
        bclone_any gs ao bs bs.length cap rfl hno _ (HLs.out.keep fun e => ((tw1.alloc _).block gs (HLs.out.lt e) id)) (by omega)
      simp only [Fl.val] at hen ⊢
      go_wp2_with fail
      refine HCl.out.mono ?_
      rintro e w2 ⟨v, rfl, hrow, hT⟩
      have hsz : (w1.alloc (.cells #[.slice ao bs.length cap, .int .i64 (syn : Int)] 66)).heap.size = wr.heap.size + 1 := by simp [hs1]
      obtain ⟨ao2, cap2, g2, rfl, hL2, _⟩ := lies_of_owned hrow
      rw [hsz] at hrow
      have hX2 : w2.heap[wr.heap.size]? = some (.cells #[.slice ao bs.length cap, .int .i64 (syn : Int)] 66 (0, 0)) := by
        rw [hT.block _ (by rw [hsz]; omega) id, ← hs1]; exact heap_alloc_new _ _
      have hB2 : w2.heap[w.heap.size]? = some (.cells #[.map (some (w.heap.size + 1)), .int .i64 (used es : Int), .int .i64 room, .int .i64 power] 60 (0, 0)) := by
        rw [hT.block _ (by rw [hsz]; omega) id, heap_alloc_old _ _ (by omega)]; exact hB1
      have tW : Touch (fun _ => False) w1 w2 := ((Touch.refl _ w1).alloc _).trans hT
      have t3 : Touch (fun _ => False) w1 (w2.setCell ⟨wr.heap.size, 0, none⟩ (.slice ao2 bs.length cap2)) := tW.then ((Touch.refl (fun i => i = wr.heap.size) w2).setCell _ _ fun _ => rfl) (fun i hi e => by omega)
      have hX3 : (w2.setCell ⟨wr.heap.size, 0, none⟩ (.slice ao2 bs.length cap2)).heap[wr.heap.size]? = some (.cells #[.slice ao2 bs.length cap2, .int .i64 (syn : Int)] 66 (0, 0)) := by
        rw [heap_setCell_same _ _ _ _ hX2]; rfl
      have hB3 : (w2.setCell ⟨wr.heap.size, 0, none⟩ (.slice ao2 bs.length cap2)).heap[w.heap.size]? = _ := (heap_setCell_other _ _ _ _ (by simp; omega)).trans hB2
      have hrow3 : (w2.setCell ⟨wr.heap.size, 0, none⟩ (.slice ao2 bs.length cap2)).ownsRow w1.heap.size 5 1 (.slice ao2 bs.length cap2) bs.length (cellsOf bs) := by
        refine ⟨hrow.1, ?_⟩
        rcases hrow.2 with e | ⟨g, cp, cur, e, hb, hg, r⟩
        · exact .inl e
        · exact .inr ⟨g, cp, cur, e, by omega, by rw [heap_setCell_other _ _ _ _ (by simp; omega)]; exact hg, r⟩
      obtain ⟨w3, hrun, ho3, hg3⟩ := (HO.out _ t3).update lawK Try.underlying58 (by unfold maxLen; omega) hkey (val := .agg #[.slice ao2 bs.length cap2, .int .i64 (syn : Int)]) (d := .held (.agg #[.slice ao2 bs.length cap2, .int .i64 (syn : Int)])) (ps := []) rfl
      have HF : Hid (Copying w w3 m w.heap.size es.length es room power (fun z => left z && !z.sameKey (.string x.data.toList)) cnt1 (aput x.data.toList ⟨.slice ao2 bs.length cap2, bs, syn⟩ es')) := HK.out _ _ w3 t3 hrow3 ho3 hg3
      have x0 : w2.cell? ⟨wr.heap.size, 0, none⟩ = some (.slice ao bs.length cap) := by rw [cell_of_block hX2]; rfl
      have x1 := free_of_block (i := 0) hX2
      have k0 : (w2.setCell ⟨wr.heap.size, 0, none⟩ (.slice ao2 bs.length cap2)).cell? ⟨w.heap.size, 0, none⟩ = some (.map (some (w.heap.size + 1))) := by rw [cell_of_block hB3]; rfl
      have k1 : (w2.setCell ⟨wr.heap.size, 0, none⟩ (.slice ao2 bs.length cap2)).cell? ⟨wr.heap.size, 0, none⟩ = some (.slice ao2 bs.length cap2) := by rw [cell_of_block hX3]; rfl
      have k2 : (w2.setCell ⟨wr.heap.size, 0, none⟩ (.slice ao2 bs.length cap2)).cell? ⟨wr.heap.size, 1, none⟩ = some (.int .i64 (syn : Int)) := by rw [cell_of_block hX3]; rfl
      have HS2 : Hid (cnt1 < cnt) := HS.out.2.2.1
      clear hrow hT hX2 hB2 tW t3 hX3 hB3 hrow3 ho3 hg3 hL2 HO HK HCl HLs HS tw1 hB1 hsz hen hkey
      go_wp2_with fail
      go_roundw
      case rel => exact ⟨_, _, _, HF.out⟩
      case measure => rw [HF.out.rg.left_eq, hrg.left_eq]; exact HS2.out
end Go.Proofs.Ytfmpbkdmcgkeoaa
