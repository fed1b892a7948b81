/- The contract of vector.Read on any bytes. -/
import Derived.Test.YtdblfabbmpdoiaaGreatPart11
import Derived.Test.YtdblfabbmpdoiaaGreatVRn
namespace Go.Proofs.YtdblfabbmpdoiaaGreat
open Go.RowKit Go.Maps
set_option linter.unusedVariables false
set_option linter.unusedSimpArgs false
set_option maxRecDepth 100000

/-- A try's outcome. -/
def BF (r : Int × List Ck × List UInt8) (p g lb : Nat) (w : World) (ok : Prop) (bad : Prop) (w' : World) : Prop :=
  (r.1 = 0 ∧ ok ∧ ∃ v, InBox w w' p g lb r.2.2 v r.2.1) ∨ (r.1 ≠ 0 ∧ bad ∧ Touch (· = p) w w' ∧ ∃ cs er, Rd w' p g cs er)
set_option maxHeartbeats 800000 in
theorem vread1_full (p g rb lb : Nat) (T : TypeId) (v0 : Value) (bs : List UInt8) (w : World) (h : Rd w p g bs 0)
    (hr : w.cell? ⟨rb, 0, none⟩ = some (.pointer (some ⟨p, 0, none⟩))) (hl : w.heap[lb]? = some (.cells #[v0] T (0, 0))) (hne : lb ≠ p) (hng : lb ≠ g) :
    Calls Tryz.prog 34 #[.pointer (some ⟨rb, 0, none⟩), .pointer (some ⟨lb, 0, none⟩)] w fun e w' => BF (rdV bs) p g lb w (e = .returned (.tuple #[])) (e = .panicked [thrown (rdV bs).1]) w' := by
  have K := readClocks_full p g bs w h
  have hplt := h.lt
  have HL : Hid (w.heap[lb]? = some (.cells #[v0] T (0, 0))) := hl
  have hllt := lt_of_heap hl
  clear h hl
  generalize rdV bs = r at *
  obtain ⟨er, out, rest⟩ := r
  go_enter Tryz.func34, Tryz.ntmps34
  go_wp2_with fail
  refine K.mono ?_
  rintro e w1 (⟨h0, v1, rfl, C1, R1⟩ | ⟨h0, rfl, t1, cs, er', R1⟩)
  · simp only at h0 C1 R1
    have hb := (C1.touch.block lb hllt hne).trans HL.out
    have c0 : w1.cell? ⟨lb, 0, none⟩ = some v0 := by rw [cell_of_block hb]; rfl
    have c0z : w1.frozen? ⟨lb, 0, none⟩ = false := free_of_block hb
    have hfr : ∀ k, v1.ownBlock = some k → w.heap.size ≤ k := C1.fresh
    have tt : Touch (· = lb) w1 (w1.setCell ⟨lb, 0, none⟩ v1) := (Touch.refl _ _).setCell _ _ fun _ => rfl
    have HQ : Hid (InBox w (w1.setCell ⟨lb, 0, none⟩ v1) p g lb rest v1 out) :=
      ⟨World.cell?_setCell_same _ _ _ c0, ownC_touch C1.owns tt (fun k hk e => by have := hfr k hk; omega), (C1.touch.mono fun k _ e => .inl e).then tt (fun k _ e => .inr e), hfr, R1.keep tt (fun e => hne e.symm) (fun _ e => hng e.symm)⟩
    have H0 : Hid (er = 0) := h0
    obtain ⟨ao1, cap1, rfl⟩ := C1.shape
    clear C1 R1 hb hfr tt K HL h0
    go_wp2_with fail
    go_end0
    exact .inl ⟨H0.out, rfl, _, HQ.out⟩
  · simp only at h0
    have HQ : Hid (er ≠ 0 ∧ Touch (· = p) w w1 ∧ ∃ cs er, Rd w1 p g cs er) := ⟨h0, t1, _, _, R1⟩
    clear h0 t1 R1 K HL
    go_wp2
    exact ⟨rfl, .inr ⟨HQ.out.1, rfl, HQ.out.2⟩⟩
theorem vtry_full (p g rb lb : Nat) (T : TypeId) (v0 : Value) (bs : List UInt8) (w : World) (h : Rd w p g bs 0)
    (hr : w.cell? ⟨rb, 0, none⟩ = some (.pointer (some ⟨p, 0, none⟩))) (hl : w.heap[lb]? = some (.cells #[v0] T (0, 0))) (hne : lb ≠ p) (hng : lb ≠ g) :
    Calls Tryz.prog 33 #[.func (.func 34) #[] #[.pointer (some ⟨rb, 0, none⟩), .pointer (some ⟨lb, 0, none⟩)]] w fun e w' => e = .returned (.int .i64 (rdV bs).1) ∧ BF (rdV bs) p g lb w True True w' := by
  have hplt := h.lt
  have hglt := h.ltBytes
  have hllt := lt_of_heap hl
  have hrlt := World.block_lt_of_cell? _ _ hr
  have ta : Touch (fun _ => False) w (w.alloc (.cells #[.int .i64 0] 39)) := (Touch.refl _ w).alloc _
  have K := vread1_full p g rb lb T v0 bs _ (h.alloc (.cells #[.int .i64 0] 39)) ((ta.cell hrlt id 0).trans hr) ((ta.block lb hllt id).trans hl) hne hng
  by_cases h0 : (rdV bs).1 = 0
  · refine (try_ok 34 _ w (fun w2 => ∃ v, InBox (w.alloc (.cells #[.int .i64 0] 39)) w2 p g lb (rdV bs).2.2 v (rdV bs).2.1) (vread_enters _) (K.mono ?_)).mono ?_
    · rintro e w2 (⟨_, rfl, v, I⟩ | ⟨h1, _⟩)
      · have hb : w2.heap[w.heap.size]? = some (.cells #[.int .i64 0] 39) := by
          rw [I.touch.block w.heap.size (by simp) (by omega)]
          exact heap_alloc_new _ _
        exact ⟨rfl, ⟨v, I⟩, by rw [cell_of_block hb]; rfl, free_of_block hb⟩
      · exact absurd h0 h1
    · rintro e w' ⟨rfl, w2, ⟨v, I⟩, rfl⟩
      have tt : Touch (· = w.heap.size) w2 (w2.setCell ⟨w.heap.size, 0, none⟩ (.int .i64 0)) := (Touch.refl _ _).setCell _ _ fun _ => rfl
      have hz : w.heap.size < w2.heap.size := by have := I.touch.size; simp at this; omega
      refine ⟨by rw [h0], .inl ⟨h0, trivial, v, (tt.cell (by omega) (by omega) 0).trans I.box, ownC_touch I.owns tt (fun k hk e => by have := I.fresh k hk; simp at this; omega), ?_, fun k hk => by have := I.fresh k hk; simp at this; omega, I.rd.keep tt (by omega) (fun _ => by omega)⟩⟩
      exact ((ta.mono (T := fun k => k = p ∨ k = lb) fun _ _ e => e.elim).trans (I.touch.mono fun _ _ h => h)).then tt (fun k hk e => by omega)
  · refine (try_fail 34 _ (rdV bs).1 w (fun w2 => Touch (· = p) (w.alloc (.cells #[.int .i64 0] 39)) w2 ∧ ∃ cs er, Rd w2 p g cs er) (vread_enters _) (K.mono ?_)).mono ?_
    · rintro e w2 (⟨h1, _⟩ | ⟨_, rfl, t, hR⟩)
      · exact absurd h1 h0
      · have hb : w2.heap[w.heap.size]? = some (.cells #[.int .i64 0] 39) := by
          rw [t.block w.heap.size (by simp) (by omega)]
          exact heap_alloc_new _ _
        exact ⟨rfl, ⟨t, hR⟩, by rw [cell_of_block hb]; rfl, free_of_block hb⟩
    · rintro e w' ⟨rfl, w2, ⟨t, cs, er, hR⟩, rfl⟩
      have tt0 : Touch (· = w.heap.size) w2 (w2.setCell ⟨w.heap.size, 0, none⟩ (.int .i64 (rdV bs).1)) := (Touch.refl _ _).setCell _ _ fun _ => rfl
      have tt := tt0.alloc (.cells #[.int .i64 (rdV bs).1] 91)
      refine ⟨rfl, .inr ⟨h0, trivial, ?_, cs, er, hR.keep tt (by omega) (fun _ => by omega)⟩⟩
      exact ((ta.mono (T := (· = p)) fun _ _ e => e.elim).trans t).then tt (fun k hk e => by omega)
/-- A Reader laid as it was, with an error. -/
theorem Rd.back {w wx : World} {p g : Nat} {bs cs : List UInt8} {er er' x : Int} {ao : Option Addr} {c : Nat} (hp : w.heap[p]? = some (.cells #[.slice ao bs.length c, .int .i64 er] 67 (0, 0))) (hl : bs.length ≤ c) (hc : c ≤ 9223372036854775807) (hL : Lies w g ao bs) (hg : g < w.heap.size)
    (t : Touch (· = p) w wx) (hb : wx.heap[p]? = some (.cells #[.slice ao bs.length c, .int .i64 x] 67 (0, 0))) : Rd wx p g bs x :=
  ⟨ao, c, hb, hl, hc, hL.keep fun e => t.block g hg (fun e' => hL.ne hp e e'.symm), Nat.lt_of_lt_of_le hg t.size⟩
def RF (r : Int × List Ck × List UInt8) (p g : Nat) (bs : List UInt8) (w : World) (e : Ending) (w' : World) : Prop :=
  (r.1 = 0 ∧ ∃ v', e = .returned v' ∧ ReadC w w' p v' r.2.1 ∧ Rd w' p g r.2.2 0) ∨ (r.1 ≠ 0 ∧ e = .returned (.slice none 0 0) ∧ Touch (· = p) w w' ∧ Rd w' p g bs r.1)
set_option maxHeartbeats 1600000 in
theorem vread_full (p g : Nat) (bs : List UInt8) (w : World) (h : Rd w p g bs 0) :
    Calls Tryz.prog 15 #[.pointer (some ⟨p, 0, none⟩)] w (RF (rdV bs) p g bs w) := by
  have hplt := h.lt
  have hglt := h.ltBytes
  have HR : Hid (Rd w p g bs 0) := h
  have hmf : ∀ (fn : Fn) (first cap : Array Value) (w : World), (Instr.makeFunc fn first cap).run Tryz.prog w = .ok (.func fn first cap) w := fun _ _ _ _ => rfl
  obtain ⟨ao, c, hp, hl, hc, hL, _⟩ := h
  have c0 : w.cell? ⟨p, 0, none⟩ = some (.slice ao bs.length c) := by rw [cell_of_block hp]; rfl
  have c1 : w.cell? ⟨p, 1, none⟩ = some (.int .i64 0) := by rw [cell_of_block hp]; rfl
  have HB : Hid (∀ wx x, Touch (· = p) w wx → wx.heap[p]? = some (.cells #[.slice ao bs.length c, .int .i64 x] 67 (0, 0)) → Rd wx p g bs x) := fun wx x t hb => Rd.back (cs := bs) (er' := 0) hp hl hc hL hglt t hb
  clear hp hL
  generalize bs.length = N at *
  go_enter Tryz.func15, Tryz.ntmps15
  go_wp2_with fail
  obtain ⟨W0, hW0⟩ : ∃ W0, W0 = w.alloc (.cells #[.pointer (some ⟨p, 0, none⟩)] 34) := ⟨_, rfl⟩
  rw [← hW0]
  obtain ⟨W1, hW1⟩ : ∃ W1, W1 = W0.alloc (.cells #[.slice ao N c, .int .i64 0] 67) := ⟨_, rfl⟩
  rw [← hW1]
  obtain ⟨W2, hW2⟩ : ∃ W2, W2 = W1.alloc (.cells #[.slice none 0 0] 22) := ⟨_, rfl⟩
  rw [← hW2]
  have z0 : W0.heap.size = w.heap.size + 1 := by rw [hW0]; simp
  have z1 : W1.heap.size = w.heap.size + 1 + 1 := by rw [hW1]; simp [z0]
  have z2 : W2.heap.size = w.heap.size + 1 + 1 + 1 := by rw [hW2]; simp [z1]
  have t0 : Touch (fun _ => False) w W0 := by rw [hW0]; exact (Touch.refl _ _).alloc _
  have t1 : Touch (fun _ => False) W0 W1 := by rw [hW1]; exact (Touch.refl _ _).alloc _
  have t2 : Touch (fun _ => False) W1 W2 := by rw [hW2]; exact (Touch.refl _ _).alloc _
  have b0 : W0.cell? ⟨w.heap.size, 0, none⟩ = some (.pointer (some ⟨p, 0, none⟩)) := by rw [hW0, cell_of_block (heap_alloc_new _ _)]; rfl
  have b0' := (t2.cell (b := w.heap.size) (by omega) id 0).trans ((t1.cell (b := w.heap.size) (by omega) id 0).trans b0)
  have b1 : W2.heap[w.heap.size + 1]? = some (.cells #[.slice ao N c, .int .i64 0] 67 (0, 0)) := (t2.block _ (by omega) id).trans (by rw [hW1, ← z0]; exact heap_alloc_new _ _)
  have b2 : W2.heap[w.heap.size + 1 + 1]? = some (.cells #[.slice none 0 0] 22 (0, 0)) := by rw [hW2, ← z1]; exact heap_alloc_new _ _
  have tA := (t0.trans t1).trans t2
  have HT := vtry_full p g w.heap.size (w.heap.size + 1 + 1) _ _ bs W2 (HR.out.keep tA id (fun _ => id)) b0' b2 (by omega) (by omega)
  generalize rdV bs = r at *
  obtain ⟨er, out, rest⟩ := r
  refine HT.mono ?_
  rintro e w5 ⟨rfl, ⟨h0, _, v5, I5⟩ | ⟨h0, _, t5, cs, er', R5⟩⟩
  · simp only at h0 I5
    subst h0
    have cB := I5.box
    have HQ : Hid (ReadC w w5 p v5 out ∧ Rd w5 p g rest 0) :=
      ⟨⟨I5.owns, (tA.mono (T := (· = p)) fun _ _ e => e.elim).then I5.touch (fun k hk e => by rcases e with e | e; exact e; omega), fun k hk => Nat.le_trans tA.size (I5.fresh k hk)⟩, I5.rd⟩
    obtain ⟨ao5, cap5, rfl⟩ := HQ.out.1.shape
    clear I5 HT tA b2 b1 b0' b0 t2 t1 t0 z2 z1 z0 hW2 hW1 hW0 c0 c1 HR HB
    simp only
    go_wp2_with fail
    refine bodyPost_ret (v := .slice ao5 out.length cap5) (by simp [results, Tryz.results15, go_sem]) rfl ?_
    exact .inl ⟨rfl, _, rfl, HQ.out⟩
  · simp only at h0
    have hz : (er == 0) = false := by simpa using h0
    have d0 : w5.cell? ⟨w.heap.size, 0, none⟩ = some (.pointer (some ⟨p, 0, none⟩)) := (t5.cell (by omega) (by omega) 0).trans b0'
    have hb1 := (t5.block (w.heap.size + 1) (by omega) (by omega)).trans b1
    have d1 : w5.cell? ⟨w.heap.size + 1, 0, none⟩ = some (.slice ao N c) := by rw [cell_of_block hb1]; rfl
    have d2 : w5.cell? ⟨w.heap.size + 1, 1, none⟩ = some (.int .i64 0) := by rw [cell_of_block hb1]; rfl
    obtain ⟨ao5, c5, hp5, _⟩ := R5
    have d3 : w5.cell? ⟨p, 0, none⟩ = some (.slice ao5 cs.length c5) := by rw [cell_of_block hp5]; rfl
    have d4 : w5.cell? ⟨p, 1, none⟩ = some (.int .i64 er') := by rw [cell_of_block hp5]; rfl
    have d5 : w5.frozen? ⟨p, 0, none⟩ = false := free_of_block hp5
    have d6 : w5.frozen? ⟨p, 1, none⟩ = false := free_of_block hp5
    have T5 : Touch (· = p) w w5 := (tA.mono (T := (· = p)) fun _ _ e => e.elim).trans t5
    have HP : Hid (Touch (· = p) w w5 ∧ w5.heap[p]? = some (.cells #[.slice ao5 cs.length c5, .int .i64 er'] 67 (0, 0))) := ⟨T5, hp5⟩
    have H0 : Hid (er ≠ 0) := h0
    have hpn : p ≠ w.heap.size := by omega
    have hpn1 : p ≠ w.heap.size + 1 := by omega
    clear t5 hb1 hp5 T5 HT tA b2 b1 b0' b0 t2 t1 t0 z2 z1 z0 hW2 hW1 hW0 c0 c1 HR h0
    generalize cs.length = M at *
    simp only
    go_wp2_with fail
    have e1 : (w5.setCell ⟨p, 0, none⟩ (.slice ao N c)).heap[p]? = some (.cells #[.slice ao N c, .int .i64 er'] 67 (0, 0)) := by rw [heap_setCell_same _ _ _ _ HP.out.2]; rfl
    have e2 : ((w5.setCell ⟨p, 0, none⟩ (.slice ao N c)).setCell ⟨p, 1, none⟩ (.int .i64 0)).heap[p]? = some (.cells #[.slice ao N c, .int .i64 0] 67 (0, 0)) := by rw [heap_setCell_same _ _ _ _ e1]; rfl
    have e3 : (((w5.setCell ⟨p, 0, none⟩ (.slice ao N c)).setCell ⟨p, 1, none⟩ (.int .i64 0)).setCell ⟨p, 1, none⟩ (.int .i64 er)).heap[p]? = some (.cells #[.slice ao N c, .int .i64 er] 67 (0, 0)) := by rw [heap_setCell_same _ _ _ _ e2]; rfl
    have T6 : Touch (· = p) w (((w5.setCell ⟨p, 0, none⟩ (.slice ao N c)).setCell ⟨p, 1, none⟩ (.int .i64 0)).setCell ⟨p, 1, none⟩ (.int .i64 er)) := ((HP.out.1.setCell _ _ fun _ => rfl).setCell _ _ fun _ => rfl).setCell _ _ fun _ => rfl
    refine bodyPost_ret (v := .slice none 0 0) (by simp [results, Tryz.results15, go_sem]) rfl ?_
    exact .inr ⟨H0.out, rfl, T6, HB.out _ _ T6 e3⟩
end Go.Proofs.YtdblfabbmpdoiaaGreat
