/- quirelaw9.grown: the units that it makes. -/
import Derived.Test.YtnbphdmpbjahhaaPart31
import Derived.Test.YtnbphdmpbjahhaaRqN
import Derived.Test.YtnbphdmpbjahhaaNumR
import Derived.Test.YtnbphdmpbjahhaaPart18
import Derived.Test.YtnbphdmpbjahhaaPart29
namespace Go.Proofs.Ytnbphdmpbjahhaa
open Go.RowKit
set_option linter.unusedVariables false
set_option linter.unusedSimpArgs false
set_option maxRecDepth 100000

/-- A store into a cell that holds an unsigned number leaves ints alone. -/
theorem SlJ.setU {w : World} {v : Value} {l : List Int} (h : SlJ w v l) {pb pi : Nat} (hp : ∃ x, w.cell? ⟨pb, pi, none⟩ = some (.int .u64 x)) (y : Value) : SlJ (w.setCell ⟨pb, pi, none⟩ y) v l := by
  obtain ⟨ao, cap, e, h1, h2, h3, h4⟩ := h
  refine ⟨ao, cap, e, h1, h2, h3, ?_⟩
  rcases h4 with h4 | ⟨b, o, e, hT, hx⟩
  · exact .inl h4
  · refine .inr ⟨b, o, e, typed_set hT, fun j u hu => ?_⟩
    have hc := hx j u hu
    have hu' : ∃ x : Int, u = .int .i64 x := by
      have hm := List.mem_of_getElem? hu
      obtain ⟨x, _, hx⟩ := List.mem_flatMap.1 hm
      simp only [cellJ, List.mem_cons, List.not_mem_nil, or_false] at hx
      exact ⟨x, hx⟩
    have hne : (⟨pb, pi, none⟩ : Addr) ≠ ⟨b, o + j, none⟩ := fun e => by
      obtain ⟨x, hs⟩ := hp
      obtain ⟨z, rfl⟩ := hu'
      rw [e, hc] at hs
      simp at hs
    rw [World.cell?_setCell_other w _ _ _ hne]; exact hc
/-- The clients' next clocks. -/
abbrev nxO (nx : Nat → Int) : Obj := .cells #[.int .u64 (nx 0), .int .u64 (nx 1), .int .u64 (nx 2), .int .u64 (nx 3)] 92
theorem nxO_cell {w : World} {B : Nat} {nx : Nat → Int} (h : w.heap[B]? = some (nxO nx)) (c : Nat) (hc : c < 4) : w.cell? ⟨B, c, none⟩ = some (.int .u64 (nx c)) := by
  rw [cell_of_block h]
  rcases c with _ | _ | _ | _ | c
  · rfl
  · rfl
  · rfl
  · rfl
  · omega
theorem nxO_set {w : World} {B : Nat} {nx : Nat → Int} (h : w.heap[B]? = some (nxO nx)) (c : Nat) (hc : c < 4) : (w.setCell ⟨B, c, none⟩ (.int .u64 (nx c + 1))).heap[B]? = some (nxO fun i => nx i + (if i = c then 1 else 0)) := by
  have := heap_setCell_same w B c (.int .u64 (nx c + 1)) h
  rw [this]
  rcases c with _ | _ | _ | _ | c
  · simp
  · simp
  · simp
  · simp
  · omega
theorem RqAt.setNx {w : World} {b B : Nat} {r : RS} {nx : Nat → Int} (h : RqAt w b r) (hB : w.heap[B]? = some (nxO nx)) (c : Nat) (hc : c < 4) (y : Value) : RqAt (w.setCell ⟨B, c, none⟩ y) b r := by
  have hp : ∃ x, w.cell? ⟨B, c, none⟩ = some (.int .u64 x) := ⟨_, nxO_cell hB c hc⟩
  obtain ⟨cb, hcb⟩ := h.blk
  have hne : B ≠ b := fun e => by
    rw [e, hcb] at hB
    simp at hB
  have hbk : (w.setCell ⟨B, c, none⟩ y).heap[b]? = w.heap[b]? := Below.heap_setCell _ _ _ _ hne.symm
  have hcell : ∀ k, (w.setCell ⟨B, c, none⟩ y).cell? ⟨b, k, none⟩ = w.cell? ⟨b, k, none⟩ := fun k => World.cell?_of_block hbk
  obtain ⟨vl, M, l1, l2, l3, l4⟩ := h.l
  obtain ⟨vm, m1, m2⟩ := h.more
  obtain ⟨vo, o1, o2⟩ := h.ord
  have hb : vl.ownBlock ≠ some B := by
    rcases l2.2 with ⟨e, _⟩ | ⟨g, cap, cur, e, q, hg, _⟩
    · rw [e]; simp [Value.ownBlock]
    · rw [e]
      intro hh
      have hgb : g = B := by simpa [Value.ownBlock] using hh
      rw [hgb, hB] at hg
      simp at hg
  exact ⟨⟨cb, hbk.trans hcb⟩, ⟨vl, M, (hcell 0).trans l1, owns_set l2 B c hb y, l3, fun i h h' => ⟨(l4 i h h').u, (l4 i h h').par, (l4 i h h').left, (l4 i h h').lefts.setU hp y, (l4 i h h').more.setU hp y⟩⟩, ⟨vm, (hcell 1).trans m1, m2.setU hp y⟩, ⟨vo, (hcell 2).trans o1, o2.setU hp y⟩⟩
theorem OwnV.onS {S : Nat → Prop} {W w w' : World} {v : Value} {n : Nat} {xs : List Value} (h : OwnV W w v n xs) (t : Touch S w w') (hs : ∀ k, v.ownBlock = some k → ¬ S k) (hW : ∀ k, k < W.heap.size → ¬ S k) : OwnV W w' v n xs :=
  ⟨ownV_touch h.owns t hs, h.touch.then t fun k hk e => (hW k hk e).elim, h.fresh⟩
theorem OwnV.blockNe {W w : World} {v : Value} {n : Nat} {xs : List Value} (h : OwnV W w v n xs) {b : Nat} {c : Array Value} {t : TypeId} {fr : Nat × Nat} (hb : w.heap[b]? = some (.cells c t fr)) (ht : t ≠ 35) : ∀ k, v.ownBlock = some k → k ≠ b := fun k hk e => by
  subst e
  rcases h.owns.2 with ⟨e, _⟩ | ⟨g, cap, cur, e, q, hg, _⟩
  · rw [e] at hk; simp [Value.ownBlock] at hk
  · rw [e] at hk
    have hgk : g = k := by simpa [Value.ownBlock] using hk
    rw [hgk, hb] at hg
    simp at hg
    exact ht hg.2.1
theorem unO_set2 {W : World} {m : Nat} {u : Un} (h : W.heap[m]? = some (unO u)) (a b : Int) : ((W.setCell ⟨m, 2, none⟩ (.int .u64 a)).setCell ⟨m, 3, none⟩ (.int .u64 b)).heap[m]? = some (unO ⟨u.c, u.k, a, b, u.rc, u.rk⟩) := heap_setCell_same _ _ _ _ (heap_setCell_same _ _ _ _ h)
theorem unO_set4 {W : World} {m : Nat} {u : Un} (h : W.heap[m]? = some (unO u)) (a b : Int) : ((W.setCell ⟨m, 4, none⟩ (.int .u64 a)).setCell ⟨m, 5, none⟩ (.int .u64 b)).heap[m]? = some (unO ⟨u.c, u.k, u.lc, u.lk, a, b⟩) := heap_setCell_same _ _ _ _ (heap_setCell_same _ _ _ _ h)
/-- What is touched are units' blocks alone. -/
def OnlyV (w : World) (S : Nat → Prop) : Prop := ∀ k c ty fr, w.heap[k]? = some (.cells c ty fr) → S k → ty = 35
theorem SlJ.keepV {S : Nat → Prop} {w w' : World} {v : Value} {l : List Int} (h : SlJ w v l) (t : Touch S w w') (hS : OnlyV w S) : SlJ w' v l := by
  obtain ⟨ao, cap, e, h1, h2, h3, h4⟩ := h
  refine ⟨ao, cap, e, h1, h2, h3, ?_⟩
  rcases h4 with h4 | ⟨b, o, e, ⟨c, hT⟩, hx⟩
  · exact .inl h4
  · have hb := t.block b (lt_of_heap hT) fun hs => absurd (hS _ _ _ _ hT hs) (by decide)
    exact .inr ⟨b, o, e, ⟨c, hb.trans hT⟩, fun j u hu => by rw [World.cell?_of_block hb]; exact hx j u hu⟩
theorem RqAt.keepV {S : Nat → Prop} {w w' : World} {b : Nat} {r : RS} (h : RqAt w b r) (t : Touch S w w') (hS : OnlyV w S) : RqAt w' b r := by
  obtain ⟨c, hc⟩ := h.blk
  have hb := t.block b (lt_of_heap hc) fun hs => absurd (hS _ _ _ _ hc hs) (by decide)
  refine ⟨⟨c, hb.trans hc⟩, ?_, ?_, ?_⟩
  · obtain ⟨v, M, h1, h2, h3, h4⟩ := h.l
    refine ⟨v, M, (World.cell?_of_block hb).trans h1, ⟨h2.1, ?_⟩, h3, fun i h h' => ⟨(h4 i h h').u, (h4 i h h').par, (h4 i h h').left, (h4 i h h').lefts.keepV t hS, (h4 i h h').more.keepV t hS⟩⟩
    rcases h2.2 with h | ⟨g, cap, cur, rfl, q, hg, r⟩
    · exact .inl h
    · exact .inr ⟨g, cap, cur, rfl, q, (t.block g (lt_of_heap hg) fun hs => absurd (hS _ _ _ _ hg hs) (by decide)).trans hg, r⟩
  · obtain ⟨v, h1, h2⟩ := h.more
    exact ⟨v, (World.cell?_of_block hb).trans h1, h2.keepV t hS⟩
  · obtain ⟨v, h1, h2⟩ := h.ord
    exact ⟨v, (World.cell?_of_block hb).trans h1, h2.keepV t hS⟩
theorem OwnV.only {W w : World} {v : Value} {n : Nat} {xs : List Value} (h : OwnV W w v n xs) : OnlyV w fun k => v.ownBlock = some k := fun k c ty fr hk e => by
  rcases h.owns.2 with ⟨e', _⟩ | ⟨g, cap, cur, e', q, hg, _⟩
  · rw [e'] at e; simp [Value.ownBlock] at e
  · rw [e'] at e
    have hgk : g = k := by simpa [Value.ownBlock] using e
    rw [hgk, hk] at hg
    simp at hg
    exact hg.2.1
/-- In the midst of grown: the tree at b, the clocks at B, the units in v; all made since w. -/
structure GW (w W : World) (b B : Nat) (v : Value) (g : GS) : Prop where
  tree : RqAt W b g.r
  nx : W.heap[B]? = some (nxO g.nx)
  out : NewV w W v g.out
  nb : w.heap.size ≤ b
  nB : w.heap.size ≤ B
abbrev sqO : Obj := .cells #[.slice none 0 0, .slice none 0 0, .slice none 0 0] 30
theorem RqAt.zero {W : World} {b : Nat} (h : W.heap[b]? = some sqO) : RqAt W b .zero :=
  ⟨⟨_, h⟩, ⟨.slice none 0 0, [], by rw [cell_of_block h]; rfl, World.ownsRow_nil _ _ _ _, rfl, fun i h => absurd h (Nat.not_lt_zero _)⟩, ⟨_, by rw [cell_of_block h]; rfl, SlJ.nil _⟩, ⟨_, by rw [cell_of_block h]; rfl, SlJ.nil _⟩⟩
set_option maxHeartbeats 8000000 in
theorem grown_any {w : World} {ao : Option Addr} {cap : Nat} (zs : List Int) (hz : LiesK w .u16 ao zs) (hr : ∀ y ∈ zs, 0 ≤ y ∧ y < 65536) (hl : zs.length ≤ 100) :
    Calls Try.prog 18 #[.slice ao zs.length cap] w fun e w' => ∃ v, e = .returned v ∧ NewV w w' v (grownG zs).out := by
  obtain ⟨E, hE⟩ : ∃ E, Hid (E = (w.alloc sqO).alloc (nxO fun _ => 1)) := ⟨_, Eq.refl _⟩
  have HTE : Hid (Touch (fun _ => False) w E) := by
    show Touch _ w E
    rw [hE.out]; exact ((Touch.refl _ _).alloc _).alloc _
  obtain ⟨b, hb⟩ : ∃ m, Hid (m = w.heap.size) := ⟨_, Eq.refl _⟩
  have H0 : Hid (GW w E b (b + 1) (.slice none 0 0) .zero) := by
    refine ⟨RqAt.zero ?_, ?_, NewV.nil _ _ HTE.out, by rw [hb.out]; exact Nat.le_refl _, by rw [hb.out]; omega⟩
    · rw [hE.out, hb.out, Below.heap_alloc _ _ _ (by simp)]; exact heap_alloc_new _ _
    · have := heap_alloc_new (w.alloc sqO) (nxO fun _ => 1)
      rw [hE.out, hb.out]
      simpa [GS.zero] using this
  have HN : Hid (∀ j, j ≤ zs.length → GInv (grownG (zs.take j)) j) := GInv.take zs
  have HStep : Hid (∀ j (hj : j < zs.length), grownG (zs.take (j + 1)) = (grownG (zs.take j)).step zs[j]) := grownG_take zs
  have HAll : Hid (grownG (zs.take zs.length) = grownG zs) := congrArg grownG List.take_length
  have HZ : Hid (∀ W, Touch (fun _ => False) w W → ∀ j (hj : j < zs.length), ∃ g o, ao = some ⟨g, o, none⟩ ∧ W.cell? ⟨g, o + j, none⟩ = some (.int .u16 zs[j])) := fun W t j hj => by
    rcases hz.touch t with h | ⟨g, o, e, h⟩
    · rw [h] at hj; exact absurd hj (Nat.not_lt_zero _)
    · exact ⟨g, o, e, h j hj⟩
  have HR : Hid (∀ j (hj : j < zs.length), 0 ≤ zs[j] ∧ zs[j] < 65536) := fun j hj => hr _ (List.getElem_mem hj)
  have esz : (w.alloc sqO).heap.size = b + 1 := by rw [hb.out]; simp
  clear hz hr
  go_enter Try.func18, Try.ntmps18
  go_upto_region 5 with fail
  try rw [esz]
  rw [← hE.out, ← hb.out]
  clear hE esz
  obtain ⟨B, hB⟩ : ∃ m, Hid (m = b + 1) := ⟨_, Eq.refl _⟩
  rw [← hB.out] at H0 ⊢
  go_loopw [3, 6] (fun v i wr => ∃ j : Nat, i = .int .i64 (j : Int) ∧ j ≤ zs.length ∧ Hid (GW w wr b B v (grownG (zs.take j)))) (fun _ i _ => (zs.length - intOf i).toNat)
  case atStart => exact ⟨0, rfl, Nat.zero_le _, H0.out⟩
  case round =>
    obtain ⟨j, rfl, hj, HJ⟩ := hrel
    by_cases hlt : j < zs.length
    rotate_left
    · have hjl : j = zs.length := by omega
      have HF : Hid (NewV w wr u3 (grownG zs).out) := by
        have := HJ.out.out
        rw [hjl, HAll.out] at this
        exact this
      clear HJ HZ HR HN HStep HAll H0 HTE
      generalize zs.length = nz at *
      go_wp2_with fail
      go_ret
      exact ⟨_, rfl, HF.out⟩
    · obtain ⟨g, o, rfl, -⟩ := HZ.out _ HJ.out.out.touch j hlt
      have HZj : Hid (∀ W, Touch (fun _ => False) wr W → W.cell? ⟨g, o + j, none⟩ = some (.int .u16 zs[j])) := fun W t => by
        obtain ⟨g2, o2, e, c⟩ := HZ.out W (HJ.out.out.touch.trans t) j hlt
        simp only [Option.some.injEq, Addr.mk.injEq] at e
        obtain ⟨rfl, rfl, -⟩ := e
        exact c
      obtain ⟨x0, x1⟩ := HR.out j hlt
      have HSt := HStep.out j hlt
      have HG := HN.out j hj
      have HSt2 : Hid (grownG (zs.take (j + 1)) = (grownG (zs.take j)).step zs[j]) := HSt
      have HG2 : Hid (GInv (grownG (zs.take j)) j) := HG
      generalize zs[j] = x at *
      generalize grownG (zs.take j) = gs at *
      have l0 : (j : Int) < (zs.length : Int) := by omega
      clear HSt HG HZ HR HN HStep HAll H0 HTE
      generalize hnz : zs.length = nz at *
      clear hnz
      obtain ⟨c, hc⟩ : ∃ c : Nat, x % 4 = (c : Int) := Int.eq_ofNat_of_zero_le (by omega)
      have hc4 : c < 4 := by omega
      have HCx : Hid ((x % 4).toNat = c) := by
        show (x % 4).toNat = c
        rw [hc]; rfl
      have HCy : Hid (x % 4 = (c : Int)) := hc
      obtain ⟨y, hy⟩ : ∃ y, Hid (y = gs.nx c) := ⟨_, Eq.refl _⟩
      have hyb : 1 ≤ y ∧ y ≤ 1000 := by
        have := HG2.out.nx c
        have := hy.out
        omega
      have c0 := HZj.out _ (Touch.refl _ _)
      have n0 : wr.cell? ⟨B, c, none⟩ = some (.int .u64 y) := by rw [hy.out]; exact nxO_cell HJ.out.nx c hc4
      have ci : (c : Int) < 4 := by omega
      have HId : Hid (∀ W, Calls Try.prog 15 #[.int .u64 ((c : Int) + 1), .int .u64 y] W fun e w' => e = .returned (.agg #[.int .u64 ((c : Int) + 1), .int .u64 y]) ∧ Touch (fun _ => False) W w') := fun W => id_any _ _ W
      go_upto_region 8 with fail
      rw [hc]
      clear hc
      go_cut [8] (fun t wx => ∃ m, t = .pointer (some ⟨m, 0, none⟩) ∧ Hid (Touch (fun _ => False) wr wx ∧ wr.heap.size ≤ m ∧ wx.heap[m]? = some (unO ⟨(c : Int) + 1, y, 0, 0, 0, 0⟩)))
      case first =>
        clear HJ HSt2 HG2 HZj HCx HCy hy
        go_wp2_with fail
        refine (HId.out _).mono ?_
        rintro e W1 ⟨rfl, t1⟩
        have HT1 : Hid (Touch (fun _ => False) wr W1) := t1
        clear t1 HId n0 c0
        go_wp2_with fail
        go_meet
        case rel => exact ⟨_, rfl, HT1.out.alloc _, HT1.out.size, heap_alloc_new _ _⟩
      case rest =>
        obtain ⟨m, rfl, H1⟩ := hcut
        obtain ⟨X1, hwf⟩ : ∃ we, we = wc := ⟨_, rfl⟩
        subst hwf
        clear HId n0 c0
        obtain ⟨at0, hat⟩ : ∃ a, Hid (a = gs.at_ x) := ⟨_, Eq.refl _⟩
        obtain ⟨ol, hol⟩ : ∃ a : Nat, Hid (a = gs.r.order.length) := ⟨_, Eq.refl _⟩
        have hob : ol ≤ 1000 := by
          have h1 := hol.out
          have h2 := HG2.out.inv.len
          have h3 := HG2.out.len
          omega
        have HAt : Hid (x / 4 % ((ol : Int) + 1) = at0) := by
          show x / 4 % ((ol : Int) + 1) = at0
          rw [hat.out, hol.out]; rfl
        have hab : 0 ≤ at0 ∧ at0 ≤ 1000 := by
          have h1 := Int.emod_nonneg (x / 4) (show ((ol : Int) + 1) ≠ 0 by omega)
          have h2 := Int.emod_lt_of_pos (x / 4) (show 0 < ((ol : Int) + 1) by omega)
          have h3 := HAt.out
          omega
        have HLn : Hid (∀ W, Touch (fun _ => False) wr W → Calls Try.prog 42 #[qP b] W fun e w' => e = .returned (iV (ol : Int)) ∧ w' = W) := fun W t => by
          rw [hol.out]; exact qlen_any (HJ.out.tree.keep t)
        have c0 := HZj.out _ H1.out.1
        have ew : IntKind.i64.wrap ((ol : Int) + 1) = (ol : Int) + 1 := by rw [IntKind.wrap_i64]; omega
        have e40 : ((ol : Int) + 1 == 0) = false := by simp; omega
        have e41 : ¬ ((ol : Int) + 1 = 0) := by omega
        have e42 : ¬ ((ol : Int) + 1 = -1) := by omega
        go_upto_region 9 with fail
        go_cut [9] (fun t wx => t = .int .i64 at0 ∧ Hid (Touch (fun _ => False) wr wx ∧ wx.heap[m]? = some (unO ⟨(c : Int) + 1, y, 0, 0, 0, 0⟩)))
        case first =>
          clear HSt2 HG2 HZj HCx HCy hy
          have HL2 : Hid (∀ k, Calls Try.prog 42 #[qP b] (X1.drewN k) fun e w' => e = .returned (iV (ol : Int)) ∧ w' = X1.drewN k) := fun k => HLn.out _ (H1.out.1.drewN _)
          go_quiet (first | (go_at_call 42; exact Calls.quiet_of_same (HL2.out _)))
          try go_wp2_with fail
          go_meet
          case rel => exact ⟨by rw [quo_u16 x 4 x0 x1 (by omega), Int.tmod_eq_emod_of_nonneg (Int.ediv_nonneg x0 (by omega)), HAt.out], H1.out.1.drewN _, H1.out.2.2⟩
        case rest =>
          obtain ⟨rfl, H2⟩ := hcut
          obtain ⟨X2, hwf⟩ : ∃ we, we = wc := ⟨_, rfl⟩
          subst hwf
          have HMs : Hid (wr.heap.size ≤ m) := H1.out.2.1
          clear c0 HLn ew e40 e41 e42 H1
          have c0 := HZj.out _ H2.out.1
          go_upto_region 11 with fail
          rw [quo_u16 x 256 x0 x1 (by omega), Int.tmod_eq_emod_of_nonneg (Int.ediv_nonneg x0 (by omega))]
          obtain ⟨fr, hfr⟩ : ∃ a, Hid (a = farG x) := ⟨_, Eq.refl _⟩
          have hfe : x / 256 % 5 = fr := hfr.out.symm
          have hfb : 0 ≤ fr ∧ fr < 5 := by omega
          rw [hfe]
          clear hfe c0
          have HA1 : Hid (∀ i W, Touch (fun _ => False) wr W → Calls Try.prog 44 #[qP b, iV i] W fun e w' => e = .returned (.tuple #[.agg #[.int .u64 ((gs.r.at_ i).1).c, .int .u64 ((gs.r.at_ i).1).k, .int .u64 ((gs.r.at_ i).1).lc, .int .u64 ((gs.r.at_ i).1).lk, .int .u64 ((gs.r.at_ i).1).rc, .int .u64 ((gs.r.at_ i).1).rk], .bool (gs.r.at_ i).2]) ∧ Touch (fun _ => False) W w') := fun i W t => qat_any (HJ.out.tree.keep t) HG2.out.inv.lt i
          obtain ⟨L, hL⟩ : ∃ u, Hid (u = gs.left x) := ⟨_, Eq.refl _⟩
          obtain ⟨R, hR⟩ : ∃ u, Hid (u = gs.right x) := ⟨_, Eq.refl _⟩
          have HL0 : Hid (L = if 0 < at0 then (gs.r.at_ (at0 - 1)).1 else .zero) := by
            show L = _
            rw [hL.out, hat.out]; rfl
          have HR0 : Hid (R = if (gs.r.at_ (at0 + fr)).2 then (gs.r.at_ (at0 + fr)).1 else .zero) := by
            show R = _
            rw [hR.out, hat.out, hfr.out]; rfl
          have HU : Hid (gs.unit x = ⟨(c : Int) + 1, y, L.c, L.k, R.c, R.k⟩) := by
            show gs.unit x = _
            unfold GS.unit
            rw [HCx.out, HCy.out, ← hL.out, ← hR.out, ← hy.out]
          clear hL hR hfr hat hol HAt HCy hy hob
          go_upto_if 55 with fail
          go_cut [8] (fun t wx => t = .pointer (some ⟨m, 0, none⟩) ∧ Hid (Touch (fun _ => False) wr wx ∧ wx.heap[m]? = some (unO ⟨(c : Int) + 1, y, L.c, L.k, 0, 0⟩)))
          case first =>
            clear HSt2 HG2 HZj HCx HU HR0
            by_cases ha : 0 < at0
            · have HL1 : Hid (L = (gs.r.at_ (at0 - 1)).1) := by
                show L = _
                rw [HL0.out, if_pos ha]
              have hA := HA1.out (at0 - 1)
              rw [← HL1.out] at hA
              generalize (gs.r.at_ (at0 - 1)).2 = lb at hA
              have HA2 : Hid (∀ W, Touch (fun _ => False) wr W → Calls Try.prog 44 #[qP b, iV (at0 - 1)] W fun e w' => e = .returned (.tuple #[.agg #[.int .u64 L.c, .int .u64 L.k, .int .u64 L.lc, .int .u64 L.lk, .int .u64 L.rc, .int .u64 L.rk], .bool lb]) ∧ Touch (fun _ => False) W w') := hA
              clear hA HA1 HL0 HL1
              have ew : IntKind.i64.wrap (at0 - 1) = at0 - 1 := by rw [IntKind.wrap_i64]; omega
              go_wp2_with fail
              refine (HA2.out _ H2.out.1).mono ?_
              rintro e W3 ⟨rfl, t3⟩
              have H3 : Hid (Touch (fun _ => False) wr (W3.alloc (unO L)) ∧ (W3.alloc (unO L)).heap[m]? = some (unO ⟨(c : Int) + 1, y, 0, 0, 0, 0⟩) ∧ (W3.alloc (unO L)).heap[W3.heap.size]? = some (unO L)) := ⟨(H2.out.1.trans t3).alloc _, heap_keep ((t3).alloc _) H2.out.2, heap_alloc_new _ _⟩
              clear t3 HA2 ew
              go_upto_region 13 with fail
              obtain ⟨X3, hX3⟩ : ∃ X, Hid (X = W3.alloc (unO L)) := ⟨_, Eq.refl _⟩
              rw [← hX3.out] at H3 ⊢
              clear hX3
              generalize W3.heap.size = m3 at *
              obtain ⟨q0, q1, -, -, -, -⟩ := unO_cells H3.out.2.2
              obtain ⟨-, -, p2, p3, -, -⟩ := unO_cells H3.out.2.1
              have z2 : X3.frozen? ⟨m, 2, none⟩ = false := free_of_block H3.out.2.1
              have z3 : X3.frozen? ⟨m, 3, none⟩ = false := free_of_block H3.out.2.1
              have s3 := heap_setCell_same X3 m 2 (.int .u64 L.c) H3.out.2.1
              have p3' : (X3.setCell ⟨m, 2, none⟩ (.int .u64 L.c)).cell? ⟨m, 3, none⟩ = some (.int .u64 0) := by rw [cell_of_block s3]; rfl
              have z3' : (X3.setCell ⟨m, 2, none⟩ (.int .u64 L.c)).frozen? ⟨m, 3, none⟩ = false := free_of_block s3
              have HS : Hid (Touch (fun _ => False) wr ((X3.setCell ⟨m, 2, none⟩ (.int .u64 L.c)).setCell ⟨m, 3, none⟩ (.int .u64 L.k)) ∧ ((X3.setCell ⟨m, 2, none⟩ (.int .u64 L.c)).setCell ⟨m, 3, none⟩ (.int .u64 L.k)).heap[m]? = some (unO ⟨(c : Int) + 1, y, L.c, L.k, 0, 0⟩)) := ⟨(H3.out.1.fresh _ _ _ HMs.out).fresh _ _ _ HMs.out, unO_set2 H3.out.2.1 _ _⟩
              clear s3
              go_wp2_with fail
              go_meet
              case rel => exact ⟨rfl, HS.out⟩
            · have HL1 : Hid (L = .zero) := by
                show L = _
                rw [HL0.out, if_neg ha]
              clear HA1 HL0
              go_wp2_with fail
              go_meet
              case rel => exact ⟨rfl, H2.out.1, by rw [HL1.out]; exact H2.out.2⟩
          case rest =>
            obtain ⟨rfl, H3⟩ := hcut
            obtain ⟨X3, hwf⟩ : ∃ we, we = wc := ⟨_, rfl⟩
            subst hwf
            clear HL0 H2
            obtain ⟨rb, hrb⟩ : ∃ q, Hid (q = (gs.r.at_ (at0 + fr)).2) := ⟨_, Eq.refl _⟩
            obtain ⟨R1, hR1⟩ : ∃ q, Hid (q = (gs.r.at_ (at0 + fr)).1) := ⟨_, Eq.refl _⟩
            have hA := HA1.out (at0 + fr)
            rw [← hrb.out, ← hR1.out] at hA HR0
            have HA2 : Hid (∀ W, Touch (fun _ => False) wr W → Calls Try.prog 44 #[qP b, iV (at0 + fr)] W fun e w' => e = .returned (.tuple #[.agg #[.int .u64 R1.c, .int .u64 R1.k, .int .u64 R1.lc, .int .u64 R1.lk, .int .u64 R1.rc, .int .u64 R1.rk], .bool rb]) ∧ Touch (fun _ => False) W w') := hA
            clear hA HA1 hrb hR1
            have ew : IntKind.i64.wrap (at0 + fr) = at0 + fr := by rw [IntKind.wrap_i64]; omega
            go_upto_region 14 with fail
            go_wp2_with fail
            refine (HA2.out _ H3.out.1).mono ?_
            rintro e W4 ⟨rfl, t4⟩
            have H4 : Hid (Touch (fun _ => False) wr (W4.alloc (unO R1)) ∧ (W4.alloc (unO R1)).heap[m]? = some (unO ⟨(c : Int) + 1, y, L.c, L.k, 0, 0⟩) ∧ (W4.alloc (unO R1)).heap[W4.heap.size]? = some (unO R1)) := ⟨(H3.out.1.trans t4).alloc _, heap_keep ((t4).alloc _) H3.out.2, heap_alloc_new _ _⟩
            clear t4 HA2 ew H3
            go_upto_if 74 with fail
            obtain ⟨X4, hX4⟩ : ∃ X, Hid (X = W4.alloc (unO R1)) := ⟨_, Eq.refl _⟩
            rw [← hX4.out] at H4 ⊢
            clear hX4
            generalize W4.heap.size = m4 at *
            go_cut [8] (fun t wx => t = .pointer (some ⟨m, 0, none⟩) ∧ Hid (Touch (fun _ => False) wr wx ∧ wx.heap[m]? = some (unO ⟨(c : Int) + 1, y, L.c, L.k, R.c, R.k⟩)))
            case first =>
              clear HSt2 HG2 HZj HCx HU
              cases rb with
              | true =>
                have HR1 : Hid (R = R1) := HR0.out
                obtain ⟨q0, q1, -, -, -, -⟩ := unO_cells H4.out.2.2
                obtain ⟨-, -, -, -, p4, p5⟩ := unO_cells H4.out.2.1
                have z4 : X4.frozen? ⟨m, 4, none⟩ = false := free_of_block H4.out.2.1
                have z5 : X4.frozen? ⟨m, 5, none⟩ = false := free_of_block H4.out.2.1
                have s4 := heap_setCell_same X4 m 4 (.int .u64 R1.c) H4.out.2.1
                have p5' : (X4.setCell ⟨m, 4, none⟩ (.int .u64 R1.c)).cell? ⟨m, 5, none⟩ = some (.int .u64 0) := by rw [cell_of_block s4]; rfl
                have z5' : (X4.setCell ⟨m, 4, none⟩ (.int .u64 R1.c)).frozen? ⟨m, 5, none⟩ = false := free_of_block s4
                have HS : Hid (Touch (fun _ => False) wr ((X4.setCell ⟨m, 4, none⟩ (.int .u64 R1.c)).setCell ⟨m, 5, none⟩ (.int .u64 R1.k)) ∧ ((X4.setCell ⟨m, 4, none⟩ (.int .u64 R1.c)).setCell ⟨m, 5, none⟩ (.int .u64 R1.k)).heap[m]? = some (unO ⟨(c : Int) + 1, y, L.c, L.k, R1.c, R1.k⟩)) := ⟨(H4.out.1.fresh _ _ _ HMs.out).fresh _ _ _ HMs.out, unO_set4 H4.out.2.1 _ _⟩
                clear s4 HR0
                go_wp2_with fail
                go_meet
                case rel => exact ⟨rfl, by rw [HR1.out]; exact HS.out⟩
              | false =>
                have HR1 : Hid (R = .zero) := HR0.out
                clear HR0
                go_wp2_with fail
                go_meet
                case rel => exact ⟨rfl, H4.out.1, by rw [HR1.out]; exact H4.out.2.1⟩
            case rest =>
              obtain ⟨rfl, H5⟩ := hcut
              obtain ⟨X5, hwf⟩ : ∃ we, we = wc := ⟨_, rfl⟩
              subst hwf
              clear HR0 H4
              have HIn : Hid (Calls Try.prog 16 #[qP b, .agg #[.int .u64 ((c : Int) + 1), .int .u64 y, .int .u64 L.c, .int .u64 L.k, .int .u64 R.c, .int .u64 R.k]] X5 fun e w' => e = .returned (.bool (gs.r.may (gs.unit x))) ∧ RqAt w' b (gs.r.insert (gs.unit x)) ∧ Touch (fun z => z = b) X5 w') := by
                rw [HU.out]
                exact qinsert_any (HJ.out.tree.keep H5.out.1) HG2.out.inv _ (by have := HG2.out.len; omega)
              obtain ⟨mb, hmb⟩ : ∃ q, Hid (q = gs.r.may (gs.unit x)) := ⟨_, Eq.refl _⟩
              rw [← hmb.out] at HIn
              obtain ⟨q0, q1, q2, q3, q4, q5⟩ := unO_cells H5.out.2
              have H6 : Hid (∀ W, RqAt W b (gs.r.insert (gs.unit x)) → Touch (fun z => z = b) X5 W → NewV w W u3 gs.out ∧ W.heap[B]? = some (nxO gs.nx) ∧ W.heap[m]? = some (unO ⟨(c : Int) + 1, y, L.c, L.k, R.c, R.k⟩)) := fun W hW t => by
                have hn5 := HJ.out.out.on H5.out.1
                obtain ⟨cb, hcb⟩ := (HJ.out.tree.keep H5.out.1).blk
                have hne := hn5.blockNe hcb (by decide)
                have hB5 := heap_keep H5.out.1 HJ.out.nx
                have hBb : B ≠ b := fun e => by
                  rw [e, hcb] at hB5
                  simp at hB5
                have hmb : m ≠ b := fun e => by
                  have := H5.out.2
                  rw [e, hcb] at this
                  simp at this
                exact ⟨hn5.onS t (fun k hk e => hne k hk e) (fun k hk e => by have := HJ.out.nb; omega), (t.block _ (lt_of_heap hB5) hBb).trans hB5, (t.block _ (lt_of_heap H5.out.2) hmb).trans H5.out.2⟩
              go_upto_region 17 with fail
              go_wp2_with fail
              refine HIn.out.mono ?_
              rintro e X6 ⟨rfl, a6, t6⟩
              have H7 : Hid (RqAt X6 b (gs.r.insert (gs.unit x)) ∧ NewV w X6 u3 gs.out ∧ X6.heap[B]? = some (nxO gs.nx) ∧ X6.heap[m]? = some (unO ⟨(c : Int) + 1, y, L.c, L.k, R.c, R.k⟩)) := ⟨a6, H6.out _ a6 t6⟩
              clear a6 t6 H6 HIn q0 q1 q2 q3 q4 q5 H5
              cases mb with
              | false =>
                have HE : Hid (gs.step x = gs ∧ gs.r.insert (gs.unit x) = gs.r) := by
                  show _ ∧ _
                  unfold GS.step RS.insert
                  rw [← hmb.out]; exact ⟨rfl, rfl⟩
                have HFin : Hid (GW w X6 b B u3 (grownG (zs.take (j + 1)))) := by
                  show GW _ _ _ _ _ _
                  rw [HSt2.out, HE.out.1]
                  have h7 := H7.out.1
                  rw [HE.out.2] at h7
                  exact ⟨h7, H7.out.2.2.1, H7.out.2.1, HJ.out.nb, HJ.out.nB⟩
                clear HE H7 HSt2 HG2 HU HJ HZj
                go_wp2_with fail
                exact ⟨⟨j + 1, by go_num, by omega, HFin.out⟩, by simp [intOf]; omega⟩
              | true =>
                obtain ⟨U, hUU⟩ : ∃ u : Un, Hid (u = ⟨(c : Int) + 1, y, L.c, L.k, R.c, R.k⟩) := ⟨_, Eq.refl _⟩
                have hyc : gs.nx c = y := by
                  have := nxO_cell H7.out.2.2.1 c hc4
                  have h2 := HU.out
                  unfold GS.unit at h2
                  rw [HCx.out] at h2
                  simp only [Un.mk.injEq] at h2
                  exact h2.2.1
                have HE : Hid (gs.step x = ⟨gs.r.insert (gs.unit x), fun i => gs.nx i + (if i = c then 1 else 0), gs.out ++ [gs.unit x]⟩) := by
                  show gs.step x = _
                  unfold GS.step
                  rw [← hmb.out, HCx.out]; rfl
                have n0 : X6.cell? ⟨B, c, none⟩ = some (.int .u64 y) := by rw [← hyc]; exact nxO_cell H7.out.2.2.1 c hc4
                have nz0 : X6.frozen? ⟨B, c, none⟩ = false := free_of_block H7.out.2.2.1
                have hBm : B ≠ m := fun e => by
                  have h1 := H7.out.2.2.1
                  rw [e, H7.out.2.2.2] at h1
                  simp at h1
                obtain ⟨X7, hX7⟩ : ∃ X, Hid (X = X6.setCell ⟨B, c, none⟩ (.int .u64 (y + 1))) := ⟨_, Eq.refl _⟩
                have H8 : Hid (RqAt X7 b (gs.r.insert (gs.unit x)) ∧ NewV w X7 u3 gs.out ∧ X7.heap[B]? = some (nxO fun i => gs.nx i + (if i = c then 1 else 0)) ∧ X7.heap[m]? = some (unO ⟨(c : Int) + 1, y, L.c, L.k, R.c, R.k⟩)) := by
                  show _ ∧ _
                  rw [hX7.out]
                  have hne := H7.out.2.1.blockNe H7.out.2.2.1 (by decide)
                  have tB : Touch (fun z => z = B) X6 (X6.setCell ⟨B, c, none⟩ (.int .u64 (y + 1))) := (Touch.refl _ _).setCell _ _ fun _ => rfl
                  refine ⟨H7.out.1.setNx H7.out.2.2.1 c hc4 _, H7.out.2.1.onS tB (fun k hk e => hne k hk e) (fun k hk e => by have := HJ.out.nB; omega), ?_, ?_⟩
                  · have := nxO_set H7.out.2.2.1 c hc4
                    rw [hyc] at this
                    exact this
                  · rw [heap_setCell_other _ _ _ _ (by exact hBm)]; exact H7.out.2.2.2
                have bz : ∀ W : World, (Instr.buildSlice 45 1 #[(0, .agg #[.int .u64 ((c : Int) + 1), .int .u64 y, .int .u64 L.c, .int .u64 L.k, .int .u64 R.c, .int .u64 R.k])]).run Try.prog W = .ok (.slice (some ⟨W.heap.size, 0, none⟩) 1 1) (W.alloc (uvO ⟨(c : Int) + 1, y, L.c, L.k, R.c, R.k⟩)) := fun W => by kernel_rfl
                obtain ⟨v8, X8, hr8, n8, g8⟩ := H8.out.2.1.app1 ⟨(c : Int) + 1, y, L.c, L.k, R.c, R.k⟩ (by have := HG2.out.out; omega)
                have t8 : Touch (fun k => u3.ownBlock = some k) X7 X8 := ((Touch.refl _ _).alloc _).grown g8 fun i e _ => e
                have HR8 : Hid ((Builtin.append_ #[45, 45] 45 #[u3, .slice (some ⟨X7.heap.size, 0, none⟩) 1 1]).run Try.prog (X7.alloc (uvO ⟨(c : Int) + 1, y, L.c, L.k, R.c, R.k⟩)) = .ok v8 X8) := hr8
                have HFin : Hid (GW w X8 b B v8 (grownG (zs.take (j + 1)))) := by
                  show GW _ _ _ _ _ _
                  rw [HSt2.out, HE.out]
                  refine ⟨H8.out.1.keepV t8 H8.out.2.1.only, (t8.block _ (lt_of_heap H8.out.2.2.1) fun e => absurd (H8.out.2.1.only _ _ _ _ H8.out.2.2.1 e) (by decide)).trans H8.out.2.2.1, ?_, HJ.out.nb, HJ.out.nB⟩
                  show NewV _ _ _ (gs.out ++ [gs.unit x])
                  rw [HU.out]; exact n8
                obtain ⟨q0, q1, q2, q3, q4, q5⟩ := unO_cells H8.out.2.2.2
                have ew : IntKind.u64.wrap (y + 1) = y + 1 := wrap_u64_small _ (by omega) (by omega)
                clear hyc HE H7 HSt2 HG2 HU HJ HZj hr8 n8 hmb t8 g8
                go_upto_region 18 with fail
                go_upto_region 19 with fail
                rw [← hX7.out]
                clear hX7 n0 nz0 ew
                go_wp2_with (first | (at_builtin; refine wpList_append_runV rfl _ _ rfl _ _ _ rfl rfl HR8.out ?_))
                exact ⟨⟨j + 1, by go_num, by omega, HFin.out⟩, by simp [intOf]; omega⟩
end Go.Proofs.Ytnbphdmpbjahhaa
