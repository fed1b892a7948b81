/- A sequence and the document's tree side by side, step by step. -/
import Derived.Test.YtdnhoicfolkbnaaGreatPlR
import Derived.Test.YtdnhoicfolkbnaaGreatPart25
namespace Go.Proofs.YtdnhoicfolkbnaaGreat
open Go.RowKit
set_option linter.unusedVariables false
set_option linter.unusedSimpArgs false
set_option maxRecDepth 100000

/-- What is touched are blocks of a sequence alone. -/
def OnlyS (w : World) (P : Nat → Prop) : Prop := ∀ k c ty fr, w.heap[k]? = some (.cells c ty fr) → P k → ty ≠ 3 ∧ ty ≠ 75 ∧ ty ≠ 98 ∧ ty ≠ 59
theorem SeqM.onlyS {w : World} {B : Bk} {S : SS} (h : SeqM w B S) : OnlyS w B.has := fun k c ty fr hk hb => by
  rcases hb with rfl | rfl | rfl | rfl | rfl
  · obtain ⟨c, hc⟩ := h.blk
    rw [hc] at hk; simp at hk; rw [← hk.2.1]; decide
  · obtain ⟨c, hc, _⟩ := h.runs.row
    rw [hc] at hk; simp at hk; rw [← hk.2.1]; decide
  · obtain ⟨c, hc, _⟩ := h.pcs.row
    rw [hc] at hk; simp at hk; rw [← hk.2.1]; decide
  · obtain ⟨L, tr, h1, _⟩ := h.ord
    obtain ⟨c, hc, _⟩ := h1.row
    rw [hc] at hk; simp at hk; rw [← hk.2.1]; decide
  · obtain ⟨L, tr, h1, _⟩ := h.idx
    obtain ⟨c, hc, _⟩ := h1.row
    rw [hc] at hk; simp at hk; rw [← hk.2.1]; decide
theorem SlJ.keepS {P : Nat → Prop} {w w' : World} {v : Value} {l : List Int} (h : SlJ w v l) (t : Touch P w w') (hS : OnlyS w P) : SlJ w' v l := by
  obtain ⟨ao, cap, e, h1, h2, h3, h4⟩ := h
  refine ⟨ao, cap, e, h1, h2, h3, ?_⟩
  rcases h4 with h4 | ⟨b, o, e, ⟨c, hT⟩, hx⟩
  · exact .inl h4
  · have hb := t.block b (lt_of_heap hT) fun hs => (hS _ _ _ _ hT hs).1 rfl
    exact .inr ⟨b, o, e, ⟨c, hb.trans hT⟩, fun j u hu => by rw [World.cell?_of_block hb]; exact hx j u hu⟩
theorem RqAt.keepS {P : Nat → Prop} {w w' : World} {b : Nat} {r : RS} (h : RqAt w b r) (t : Touch P w w') (hS : OnlyS w P) : RqAt w' b r := by
  obtain ⟨c, hc⟩ := h.blk
  have hb := t.block b (lt_of_heap hc) fun hs => (hS _ _ _ _ hc hs).2.1 rfl
  refine ⟨⟨c, hb.trans hc⟩, ?_, ?_, ?_⟩
  · obtain ⟨v, M, h1, h2, h3, h4⟩ := h.l
    refine ⟨v, M, (World.cell?_of_block hb).trans h1, ⟨h2.1, ?_⟩, h3, fun i h h' => ⟨(h4 i h h').u, (h4 i h h').par, (h4 i h h').left, (h4 i h h').lefts.keepS t hS, (h4 i h h').more.keepS t hS⟩⟩
    rcases h2.2 with h | ⟨g, cap, cur, rfl, q, hg, r⟩
    · exact .inl h
    · exact .inr ⟨g, cap, cur, rfl, q, (t.block g (lt_of_heap hg) fun hs => (hS _ _ _ _ hg hs).2.2.1 rfl).trans hg, r⟩
  · obtain ⟨v, h1, h2⟩ := h.more
    exact ⟨v, (World.cell?_of_block hb).trans h1, h2.keepS t hS⟩
  · obtain ⟨v, h1, h2⟩ := h.ord
    exact ⟨v, (World.cell?_of_block hb).trans h1, h2.keepS t hS⟩
theorem SeqM.noQ {w : World} {B : Bk} {S : SS} {b : Nat} {r : RS} (h : SeqM w B S) (hq : RqAt w b r) : ¬ B.has b := fun hb => by
  obtain ⟨c, hc⟩ := hq.blk
  exact (h.onlyS _ _ _ _ hc hb).2.1 rfl
theorem RqAt.new (w : World) : RqAt (w.alloc (.cells #[.slice none 0 0, .slice none 0 0, .slice none 0 0] 75 (0, 0))) w.heap.size .zero := by
  have hb := heap_alloc_new w (.cells #[.slice none 0 0, .slice none 0 0, .slice none 0 0] 75 (0, 0))
  refine ⟨⟨_, hb⟩, ⟨.slice none 0 0, [], by rw [cell_of_block hb]; rfl, World.ownsRow_nil _ _ _ _, rfl, fun i h => absurd h (Nat.not_lt_zero _)⟩, ⟨.slice none 0 0, by rw [cell_of_block hb]; rfl, SlJ.nil _⟩, ⟨.slice none 0 0, by rw [cell_of_block hb]; rfl, SlJ.nil _⟩⟩
/-- Units' boxes lie as they lay. -/
def KeepT (W w' : World) : Prop := ∀ (k : Nat) (c : Array Value) (fr : Nat × Nat), W.heap[k]? = some (.cells c 59 fr) → w'.heap[k]? = some (.cells c 59 fr)
theorem KeepT.of {P : Nat → Prop} {W w' : World} (t : Touch P W w') (h : OnlyS W P) : KeepT W w' := fun k c fr hk => (t.block _ (lt_of_heap hk) fun hp => (h _ _ _ _ hk hp).2.2.2 rfl).trans hk
theorem KeepT.of0 {W w' : World} (t : Touch (fun _ => False) W w') : KeepT W w' := fun k c fr hk => heap_keep t hk
theorem KeepT.ofQ {W w' : World} {b : Nat} {r : RS} (t : Touch (fun x => x = b) W w') (hq : RqAt W b r) : KeepT W w' := fun k c fr hk => (t.block _ (lt_of_heap hk) fun e => by
  obtain ⟨c', hc⟩ := hq.blk
  rw [e, hc] at hk
  simp at hk).trans hk
/-- A sequence and a tree. -/
structure PlH (w W : World) (pa b : Nat) (S : SS) (r : RS) : Prop where
  s : ∃ A, Sq1 w W pa A S
  q : RqAt W b r
  nb : w.heap.size ≤ b
  t : Touch (fun _ => False) w W
theorem PlH.touch {w W W' : World} {pa b : Nat} {S : SS} {r : RS} (h : PlH w W pa b S r) (t : Touch (fun _ => False) W W') : PlH w W' pa b S r := by
  obtain ⟨A, a⟩ := h.s
  exact ⟨⟨A, a.touch t⟩, h.q.keep t, h.nb, h.t.trans t⟩
theorem PlH.ins {w W : World} {pa b : Nat} {S : SS} {r : RS} (h : PlH w W pa b S r) (u : Un) (hu : u.ok) {n : Nat} (hz : Size S n) (hn : n ≤ 1000000) :
    Calls Tryz.prog 32 #[.pointer (some ⟨pa, 0, none⟩), .agg #[.int .u64 u.c, .int .u64 u.k, .int .u64 u.lc, .int .u64 u.lk, .int .u64 u.rc, .int .u64 u.rk]] W fun e w' => e = .returned (.bool (S.may u 1)) ∧ PlH w w' pa b (S.run u 1) r ∧ KeepT W w' := by
  obtain ⟨A, a⟩ := h.s
  refine (a.ins u hu hz hn).mono ?_
  rintro e w' ⟨rfl, A', h1, h2, t⟩
  exact ⟨rfl, ⟨⟨A', h1⟩, h.q.keepS t a.mem.onlyS, h.nb, a.touch0 h.t t⟩, KeepT.of t a.mem.onlyS⟩
theorem PlH.onQ {w W W' : World} {pa b : Nat} {S : SS} {r r' : RS} (h : PlH w W pa b S r) (hq : RqAt W' b r') (t : Touch (fun x => x = b) W W') : PlH w W' pa b S r' := by
  obtain ⟨A, a⟩ := h.s
  refine ⟨⟨A, a.mem.keep t fun x hx e => a.mem.noQ h.q (e ▸ hx), a.at_, a.new, a.inv⟩, hq, h.nb, h.t.then t fun k hk e => ?_⟩
  have := h.nb
  omega
theorem PlH.insQ {w W : World} {pa b : Nat} {S : SS} {r : RS} (h : PlH w W pa b S r) (hI : RInv r) (u : Un) (hl : r.l.length ≤ 1000000) :
    Calls Tryz.prog 34 #[qP b, .agg #[.int .u64 u.c, .int .u64 u.k, .int .u64 u.lc, .int .u64 u.lk, .int .u64 u.rc, .int .u64 u.rk]] W fun e w' => e = .returned (.bool (r.may u)) ∧ PlH w w' pa b S (r.insert u) ∧ KeepT W w' := by
  refine (qinsert_any h.q hI u hl).mono ?_
  rintro e w' ⟨rfl, q1, q2⟩
  exact ⟨rfl, h.onQ q1 q2, KeepT.ofQ q2 h.q⟩
theorem PlH.runQ {w W : World} {pa b : Nat} {S : SS} {r : RS} (h : PlH w W pa b S r) (hI : RInv r) (u : Un) (hu : u.ok) (n : Int) (hn : -9223372036854775808 ≤ n ∧ n ≤ 20) (hl : r.l.length ≤ 900000) :
    Calls Tryz.prog 33 #[qP b, .agg #[.int .u64 u.c, .int .u64 u.k, .int .u64 u.lc, .int .u64 u.lk, .int .u64 u.rc, .int .u64 u.rk], .int .i64 n] W fun e w' => e = .returned (.bool (r.mayN u n)) ∧ PlH w w' pa b S (r.runN u n) ∧ KeepT W w' := by
  refine (qrun_any h.q hI u hu n hn hl).mono ?_
  rintro e w' ⟨rfl, q1, q2⟩
  exact ⟨rfl, h.onQ q1 q2, KeepT.ofQ q2 h.q⟩
set_option maxHeartbeats 4000000 in
/-- Run of none. -/
theorem run_none {w : World} {p : Nat} (u : Un) (n : Int) (hn : n < 1) :
    Calls Tryz.prog 31 #[.pointer (some ⟨p, 0, none⟩), .agg #[.int .u64 u.c, .int .u64 u.k, .int .u64 u.lc, .int .u64 u.lk, .int .u64 u.rc, .int .u64 u.rk], .int .i64 n] w fun e w' => e = .returned (.bool false) ∧ Touch (fun _ => False) w w' := by
  obtain ⟨E, hE⟩ : ∃ E, Hid (E = w.alloc (unO u)) := ⟨_, Eq.refl _⟩
  have HTE : Hid (Touch (fun _ => False) w E) := by rw [hE.out]; exact (Touch.refl _ _).alloc _
  obtain ⟨c0, c1, -, -, -, -⟩ := unO_cells (show E.heap[w.heap.size]? = some (unO u) by rw [hE.out]; exact heap_alloc_new _ _)
  have HR : Hid (∀ W, Calls Tryz.prog 53 #[.agg #[.int .u64 u.c, .int .u64 u.k]] W fun e w' => e = .returned (.bool (numOk u.c && numOk u.k)) ∧ Touch (fun _ => False) W w') := fun W => (right_any u.c u.k W).mono fun e w' q => ⟨q.1, by rw [q.2]; exact (Touch.refl _ _).alloc _⟩
  obtain ⟨uc, uk, ulc, ulk, urc, urk⟩ := u
  simp only at c0 c1 HR
  generalize (numOk uc && numOk uk) = rt at *
  go_enter Tryz.func31, Tryz.ntmps31
  go_upto_region 1 with fail
  rw [← hE.out]
  clear hE
  cases rt with
  | false =>
    go_wp2_with fail
    refine (HR.out _).mono ?_
    rintro e W1 ⟨rfl, t1⟩
    have HT1 : Hid (Touch (fun _ => False) w W1) := HTE.out.trans t1
    clear t1 HR c0 c1
    go_wp2_with fail
    go_ret
    exact ⟨rfl, HT1.out⟩
  | true =>
    go_wp2_with fail
    refine (HR.out _).mono ?_
    rintro e W1 ⟨rfl, t1⟩
    have HT1 : Hid (Touch (fun _ => False) w W1) := HTE.out.trans t1
    clear t1 HR c0 c1
    go_wp2_with fail
    go_ret
    exact ⟨rfl, HT1.out⟩
theorem PlH.run {w W : World} {pa b : Nat} {S : SS} {r : RS} (h : PlH w W pa b S r) (u : Un) (hu : u.ok) (n : Int) (hn : n ≤ 20) {k : Nat} (hz : Size S k) (hk : k ≤ 100000) :
    Calls Tryz.prog 31 #[.pointer (some ⟨pa, 0, none⟩), .agg #[.int .u64 u.c, .int .u64 u.k, .int .u64 u.lc, .int .u64 u.lk, .int .u64 u.rc, .int .u64 u.rk], .int .i64 n] W fun e w' => e = .returned (.bool (S.may u n)) ∧ PlH w w' pa b (S.run u n) r ∧ KeepT W w' := by
  by_cases h1 : n < 1
  · refine (run_none u n h1).mono ?_
    rintro e w' ⟨rfl, t⟩
    obtain ⟨e1, e2⟩ := run_low (S := S) (u := u) h1
    rw [e1, e2]
    exact ⟨rfl, h.touch t, KeepT.of0 t⟩
  · obtain ⟨A, a⟩ := h.s
    refine (a.runN u hu n (by omega) hz hk).mono ?_
    rintro e w' ⟨rfl, A', h1, h2, t⟩
    exact ⟨rfl, ⟨⟨A', h1⟩, h.q.keepS t a.mem.onlyS, h.nb, a.touch0 h.t t⟩, KeepT.of t a.mem.onlyS⟩
/-- Both, alike. -/
structure PlW (w W : World) (pa b : Nat) (S : SS) (r : RS) (n : Nat) : Prop where
  h : PlH w W pa b S r
  c : ∃ sp, Corr S r sp
  z : Size S n
theorem PlW.len {w W : World} {pa b : Nat} {S : SS} {r : RS} {n : Nat} (h : PlW w W pa b S r n) : r.l.length ≤ n ∧ RInv r ∧ S.units.length ≤ n := by
  obtain ⟨sp, c⟩ := h.c
  have h1 := c.total
  have h2 := h.z.tot
  have h3 := c.inv.units_len
  exact ⟨by omega, c.ok.inv, by omega⟩
theorem Corr.run {S : SS} {r : RS} {sp : Nat → Sp} (h : Corr S r sp) {u : Un} (hu : u.ok) (n : Int) (hn : n ≤ 20) {N : Nat} (hz : Size S N) (hN : N ≤ 100000) : S.may u n = r.mayN u n ∧ (∃ sp', Corr (S.run u n) (r.runN u n) sp') ∧ Size (S.run u n) (N + 20) := by
  have hm := h.mayN hu n
  have hs := (h.inv.runN hu n (by omega) hz hN).2.mono (show N + n.toNat ≤ N + 20 by omega)
  refine ⟨hm, ?_, hs⟩
  cases e : S.may u n with
  | false =>
    have e2 : S.run u n = S := by unfold SS.run; rw [e]; rfl
    have e3 : r.runN u n = r := by unfold RS.runN; rw [← hm, e]; rfl
    rw [e2, e3]
    exact ⟨sp, h⟩
  | true =>
    have h1 : 1 ≤ n := by
      refine Decidable.byContradiction fun q => ?_
      rw [(run_low (S := S) (u := u) (show n < 1 by omega)).1] at e
      cases e
    obtain ⟨m, rfl⟩ := Int.eq_ofNat_of_zero_le (show 0 ≤ n by omega)
    have e3 : r.runN u (m : Int) = r.inserts (runUns u m) := by unfold RS.runN; rw [← hm, e, if_pos rfl, Int.toNat_natCast]
    rw [e3]
    exact h.stepN hu (by omega) e hz (by omega)
end Go.Proofs.YtdnhoicfolkbnaaGreat

/- The document's Gap and Over. -/
namespace Go.Proofs.YtdnhoicfolkbnaaGreat
open Go.RowKit
set_option linter.unusedVariables false
set_option linter.unusedSimpArgs false
set_option maxRecDepth 100000

/-- A document's tree that is read: Find and Len of it. -/
structure SeqRq (w : World) (p : Nat) (S : SS) : Prop where
  len : ∀ W, Touch (fun _ => False) w W → Calls Tryz.prog 18 #[.pointer (some ⟨p, 0, none⟩)] W fun e w' => e = .returned (.int .i64 (S.units.length : Int)) ∧ Touch (fun _ => False) W w'
  find : ∀ W c k, Touch (fun _ => False) w W → 0 ≤ c → 0 ≤ k → k < 18446744073709551616 → Calls Tryz.prog 37 #[.pointer (some ⟨p, 0, none⟩), .agg #[.int .u64 c, .int .u64 k]] W fun e w' => e = .returned (.int .i64 (S.find c k)) ∧ Touch (fun _ => False) W w'
  le : S.units.length ≤ 1000000
  fle : ∀ c k, 0 ≤ c → 0 ≤ k → -1 ≤ S.find c k ∧ S.find c k < (S.units.length : Int)
theorem SeqRq.touch {w w' : World} {p : Nat} {S : SS} (h : SeqRq w p S) (t : Touch (fun _ => False) w w') : SeqRq w' p S := ⟨fun W t2 => h.len W (t.trans t2), fun W c k t2 => h.find W c k (t.trans t2), h.le, h.fle⟩
set_option maxHeartbeats 8000000 in
theorem qgap_any {w : World} {p : Nat} {S : SS} (h : SeqRq w p S) (c k : Int) (af : Bool) (hc : 0 ≤ c) (hk : 0 ≤ k ∧ k < 18446744073709551616) :
    Calls Tryz.prog 13 #[.pointer (some ⟨p, 0, none⟩), .agg #[.int .u64 c, .int .u64 k, .bool af]] w fun e w' => e = .returned (.tuple #[.int .i64 (gapM S c k af).1, .bool (gapM S c k af).2]) ∧ Touch (fun _ => False) w w' := by
  obtain ⟨E, hE⟩ : ∃ E, Hid (E = w.alloc (anO c k af)) := ⟨_, Eq.refl _⟩
  have HTE : Hid (Touch (fun _ => False) w E) := by rw [hE.out]; exact (Touch.refl _ _).alloc _
  have HB : Hid (E.heap[w.heap.size]? = some (anO c k af)) := by rw [hE.out]; exact heap_alloc_new _ _
  have c0 : E.cell? ⟨w.heap.size, 0, none⟩ = some (.int .u64 c) := by rw [cell_of_block HB.out]; rfl
  have c1 : E.cell? ⟨w.heap.size, 1, none⟩ = some (.int .u64 k) := by rw [cell_of_block HB.out]; rfl
  have c2 : E.cell? ⟨w.heap.size, 2, none⟩ = some (.bool af) := by rw [cell_of_block HB.out]; rfl
  have HL : Hid (Calls Tryz.prog 18 #[.pointer (some ⟨p, 0, none⟩)] E fun e w' => e = .returned (.int .i64 (S.units.length : Int)) ∧ Touch (fun _ => False) E w') := h.len E HTE.out
  have HF : Hid (Calls Tryz.prog 37 #[.pointer (some ⟨p, 0, none⟩), .agg #[.int .u64 c, .int .u64 k]] E fun e w' => e = .returned (.int .i64 (S.find c k)) ∧ Touch (fun _ => False) E w') := h.find E c k HTE.out hc hk.1 hk.2
  have hfb := h.fle c k hc hk.1
  have hle := h.le
  clear h hc hk
  rcases cmp00 c k with ⟨a1, a2, a3, a4⟩ | ⟨a1, a2, a3⟩ | ⟨a1, a3⟩
  · have HG : Hid (gapM S c k af = ((if af then (S.units.length : Int) else 0), true)) := by unfold gapM; rw [Hid, if_pos ⟨a3, a4⟩]
    clear a3 a4 hfb
    generalize S.units.length = ul at *
    rw [HG.out]
    clear HG
    cases af with
    | true =>
      go_enter Tryz.func13, Tryz.ntmps13
      go_upto_region 1 with fail
      rw [← hE.out]
      clear hE
      go_wp2_with fail
      refine HL.out.mono ?_
      rintro e W1 ⟨rfl, t1⟩
      have HT : Hid (Touch (fun _ => False) w W1) := HTE.out.trans t1
      clear t1 c0 c1 c2
      go_wp2_with fail
      refine bodyPost_ret (v := .tuple #[.int .i64 (ul : Int), .bool true]) (by simp [results, Tryz.results13, go_sem]) rfl ?_
      exact ⟨rfl, HT.out⟩
    | false =>
      go_enter Tryz.func13, Tryz.ntmps13
      go_upto_region 1 with fail
      rw [← hE.out]
      clear hE
      go_wp2_with fail
      refine bodyPost_ret (v := .tuple #[.int .i64 0, .bool true]) (by simp [results, Tryz.results13, go_sem]) rfl ?_
      exact ⟨rfl, HTE.out⟩
  all_goals
    have HG : Hid (gapM S c k af = if S.find c k < 0 then (0, false) else ((if af then S.find c k + 1 else S.find c k), true)) := by unfold gapM; rw [Hid, if_neg a3]
    have HK : Hid (∀ W, Touch (fun _ => False) E W → W.cell? ⟨w.heap.size, 2, none⟩ = some (.bool af)) := fun W t => by rw [cell_of_block (heap_keep t HB.out)]; rfl
    rw [HG.out]
    clear HG a3 HL
    generalize S.find c k = f at *
    by_cases hf : f < 0
    · rw [if_pos hf]
      go_enter Tryz.func13, Tryz.ntmps13
      go_upto_region 1 with fail
      rw [← hE.out]
      clear hE
      go_wp2_with fail
      refine HF.out.mono ?_
      rintro e W1 ⟨rfl, t1⟩
      have HT : Hid (Touch (fun _ => False) w W1) := HTE.out.trans t1
      clear t1 c0 c1 c2
      go_wp2_with fail
      refine bodyPost_ret (v := .tuple #[.int .i64 0, .bool false]) (by simp [results, Tryz.results13, go_sem]) rfl ?_
      exact ⟨rfl, HT.out⟩
    · rw [if_neg hf]
      have ew : IntKind.i64.wrap (f + 1) = f + 1 := by rw [IntKind.wrap_i64]; omega
      cases af with
      | true =>
        go_enter Tryz.func13, Tryz.ntmps13
        go_upto_region 1 with fail
        rw [← hE.out]
        clear hE
        go_wp2_with fail
        refine HF.out.mono ?_
        rintro e W1 ⟨rfl, t1⟩
        have HT : Hid (Touch (fun _ => False) w W1) := HTE.out.trans t1
        have d2 := HK.out W1 t1
        clear t1 c0 c1 c2
        go_wp2_with fail
        refine bodyPost_ret (v := .tuple #[.int .i64 (f + 1), .bool true]) (by simp [results, Tryz.results13, go_sem]) rfl ?_
        exact ⟨rfl, HT.out⟩
      | false =>
        go_enter Tryz.func13, Tryz.ntmps13
        go_upto_region 1 with fail
        rw [← hE.out]
        clear hE
        go_wp2_with fail
        refine HF.out.mono ?_
        rintro e W1 ⟨rfl, t1⟩
        have HT : Hid (Touch (fun _ => False) w W1) := HTE.out.trans t1
        have d2 := HK.out W1 t1
        clear t1 c0 c1 c2
        go_wp2_with fail
        refine bodyPost_ret (v := .tuple #[.int .i64 f, .bool true]) (by simp [results, Tryz.results13, go_sem]) rfl ?_
        exact ⟨rfl, HT.out⟩
set_option maxHeartbeats 8000000 in
theorem qover_any {w : World} {p : Nat} {S : SS} (h : SeqRq w p S) (o : O) (ho : o.fits) :
    Calls Tryz.prog 15 #[.pointer (some ⟨p, 0, none⟩), o.val] w fun e w' => e = .returned (.tuple #[.int .i64 (overM S o).1, .int .i64 (overM S o).2]) ∧ Touch (fun _ => False) w w' := by
  obtain ⟨E, hE⟩ : ∃ E, Hid (E = w.alloc (opO o)) := ⟨_, Eq.refl _⟩
  have HTE : Hid (Touch (fun _ => False) w E) := by rw [hE.out]; exact (Touch.refl _ _).alloc _
  have HB : Hid (E.heap[w.heap.size]? = some (opO o)) := by rw [hE.out]; exact heap_alloc_new _ _
  have HC : Hid (∀ W, Touch (fun _ => False) E W → (W.cell? ⟨w.heap.size, 16, none⟩ = some (.int .u64 o.fc) ∧ W.cell? ⟨w.heap.size, 17, none⟩ = some (.int .u64 o.fk) ∧ W.cell? ⟨w.heap.size, 18, none⟩ = some (.bool o.fa)) ∧ W.cell? ⟨w.heap.size, 19, none⟩ = some (.int .u64 o.tc) ∧ W.cell? ⟨w.heap.size, 20, none⟩ = some (.int .u64 o.tk) ∧ W.cell? ⟨w.heap.size, 21, none⟩ = some (.bool o.ta)) := fun W t => opO_from (heap_keep t HB.out)
  have HG1 : Hid (∀ W, Touch (fun _ => False) E W → Calls Tryz.prog 13 #[.pointer (some ⟨p, 0, none⟩), .agg #[.int .u64 o.fc, .int .u64 o.fk, .bool o.fa]] W fun e w' => e = .returned (.tuple #[.int .i64 (gapM S o.fc o.fk o.fa).1, .bool (gapM S o.fc o.fk o.fa).2]) ∧ Touch (fun _ => False) W w') := fun W t => qgap_any (h.touch (HTE.out.trans t)) _ _ _ ho.fc.1 ho.fk
  have HG2 : Hid (∀ W, Touch (fun _ => False) E W → Calls Tryz.prog 13 #[.pointer (some ⟨p, 0, none⟩), .agg #[.int .u64 o.tc, .int .u64 o.tk, .bool o.ta]] W fun e w' => e = .returned (.tuple #[.int .i64 (gapM S o.tc o.tk o.ta).1, .bool (gapM S o.tc o.tk o.ta).2]) ∧ Touch (fun _ => False) W w') := fun W t => qgap_any (h.touch (HTE.out.trans t)) _ _ _ ho.tc.1 ho.tk
  have HO : Hid (overM S o = if (gapM S o.fc o.fk o.fa).2 = true ∧ (gapM S o.tc o.tk o.ta).2 = true ∧ (gapM S o.fc o.fk o.fa).1 < (gapM S o.tc o.tk o.ta).1 then ((gapM S o.fc o.fk o.fa).1, (gapM S o.tc o.tk o.ta).1) else (0, 0)) := rfl
  obtain ⟨R, hR⟩ : ∃ R, Hid (R = overM S o) := ⟨_, Eq.refl _⟩
  rw [← hR.out]
  rw [HO.out] at hR
  clear HO h ho
  generalize gapM S o.fc o.fk o.fa = ga at *
  generalize gapM S o.tc o.tk o.ta = gb at *
  obtain ⟨a, ab⟩ := ga
  obtain ⟨b, bb⟩ := gb
  obtain ⟨R1, R2⟩ := R
  simp only at HG1 HG2 hR ⊢
  obtain ⟨oc, ok, okind, ost, olc, olk, orc, ork, otx, ovk, ovn, ovf, ovs, oky, opc, opk, ofc, ofk, ofa, otc, otk, ota⟩ := o
  simp only at HC HG1 HG2
  obtain ⟨⟨c0, c1, c2⟩, -⟩ := HC.out E (Touch.refl _ _)
  go_enter Tryz.func15, Tryz.ntmps15
  go_upto_region 1 with fail
  rw [← hE.out]
  clear hE
  go_wp2_with fail
  refine (HG1.out _ (Touch.refl _ _)).mono ?_
  rintro e W1 ⟨rfl, t1⟩
  have HT1 : Hid (Touch (fun _ => False) E W1) := t1
  obtain ⟨-, d0, d1, d2⟩ := HC.out W1 t1
  clear t1 c0 c1 c2 HG1
  go_wp2_with fail
  refine (HG2.out _ HT1.out).mono ?_
  rintro e W2 ⟨rfl, t2⟩
  have HT2 : Hid (Touch (fun _ => False) w W2) := HTE.out.trans (HT1.out.trans t2)
  clear t2 d0 d1 d2 HG2 HC HB
  cases ab with
  | false =>
    have HR0 : Hid (R1 = 0 ∧ R2 = 0) := by rw [Hid]; have := hR.out; simpa using this
    go_wp2_with fail
    refine bodyPost_ret (v := .tuple #[.int .i64 0, .int .i64 0]) (by simp [results, Tryz.results15, go_sem]) rfl ?_
    exact ⟨by rw [HR0.out.1, HR0.out.2], HT2.out⟩
  | true =>
    cases bb with
    | false =>
      have HR0 : Hid (R1 = 0 ∧ R2 = 0) := by rw [Hid]; have := hR.out; simpa using this
      go_wp2_with fail
      refine bodyPost_ret (v := .tuple #[.int .i64 0, .int .i64 0]) (by simp [results, Tryz.results15, go_sem]) rfl ?_
      exact ⟨by rw [HR0.out.1, HR0.out.2], HT2.out⟩
    | true =>
      by_cases hab : a < b
      · have l1 : ¬ b ≤ a := by omega
        have HR0 : Hid (R1 = a ∧ R2 = b) := by rw [Hid]; have := hR.out; rw [if_pos ⟨rfl, rfl, hab⟩] at this; simpa using this
        go_wp2_with fail
        refine bodyPost_ret (v := .tuple #[.int .i64 a, .int .i64 b]) (by simp [results, Tryz.results15, go_sem]) rfl ?_
        exact ⟨by rw [HR0.out.1, HR0.out.2], HT2.out⟩
      · have l1 : b ≤ a := by omega
        have HR0 : Hid (R1 = 0 ∧ R2 = 0) := by rw [Hid]; have := hR.out; rw [if_neg (fun q => hab q.2.2)] at this; simpa using this
        go_wp2_with fail
        refine bodyPost_ret (v := .tuple #[.int .i64 0, .int .i64 0]) (by simp [results, Tryz.results15, go_sem]) rfl ?_
        exact ⟨by rw [HR0.out.1, HR0.out.2], HT2.out⟩
/-- A sequence and the tree side by side are read alike. -/
theorem PlW.rd {w W : World} {pa b : Nat} {S : SS} {r : RS} {n : Nat} (h : PlW w W pa b S r n) (hn : n ≤ 1000000) : SeqRd W pa S ∧ SeqRq W b S := by
  obtain ⟨A, a⟩ := h.h.s
  obtain ⟨sp, c⟩ := h.c
  have hl := h.len
  have e1 : S.units.length = r.order.length := by rw [c.units, List.length_map]
  refine ⟨a.rd (by omega), ⟨fun W' t => ?_, fun W' c' k' t h1 h2 h3 => ?_, by omega, fun c' k' h1 h2 => find_bounds c.inv h1 h2⟩⟩
  · refine (qlen_any (h.h.touch t).q).mono ?_
    rintro e w' ⟨rfl, rfl⟩
    exact ⟨by rw [e1], Touch.refl _ _⟩
  · refine (qfindP_any (h.h.touch t).q c' k' (by omega) (by omega)).mono ?_
    rintro e w' ⟨rfl, t'⟩
    exact ⟨by rw [c.find h1 h2], t'⟩
end Go.Proofs.YtdnhoicfolkbnaaGreat
