/- quirelaw9.SeqNoMix: what a writer does. -/
import Derived.Test.YtnbphdmpbjahhaaPart20
import Derived.Test.YtnbphdmpbjahhaaNmM
import Derived.Test.YtnbphdmpbjahhaaPart29
import Derived.Deep.CutBlock
namespace Go.Proofs.Ytnbphdmpbjahhaa
open Go.RowKit
set_option linter.unusedVariables false
set_option linter.unusedSimpArgs false
set_option maxRecDepth 100000

/-- A block of a sequence is none of these boxes. -/
theorem SeqM.typB {w : World} {B : Bk} {S : SS} (h : SeqM w B S) {k : Nat} (hk : B.has k) : ∃ c t fr, w.heap[k]? = some (.cells c t fr) ∧ t ≠ 33 ∧ t ≠ 24 ∧ t ≠ 4 ∧ t ≠ 3 := by
  rcases hk with rfl | rfl | rfl | rfl | rfl
  · obtain ⟨c, hc⟩ := h.blk
    exact ⟨c, _, _, hc, by decide⟩
  · obtain ⟨c, hc, _⟩ := h.runs.row
    exact ⟨c, _, _, hc, by decide⟩
  · obtain ⟨c, hc, _⟩ := h.pcs.row
    exact ⟨c, _, _, hc, by decide⟩
  · obtain ⟨L, tr, h1, _⟩ := h.ord
    obtain ⟨c, hc, _⟩ := h1.row
    exact ⟨c, _, _, hc, by decide⟩
  · obtain ⟨L, tr, h1, _⟩ := h.idx
    obtain ⟨c, hc, _⟩ := h1.row
    exact ⟨c, _, _, hc, by decide⟩
theorem SeqM.noId {w : World} {B : Bk} {S : SS} (h : SeqM w B S) {m : Nat} {c k : Int} (hm : w.heap[m]? = some (idO c k)) : ¬ B.has m := fun hk => by
  obtain ⟨c, t, fr, e, ht, _⟩ := h.typB hk
  rw [hm] at e
  simp at e
  exact ht e.2.1.symm
theorem SeqM.noPt {w : World} {B : Bk} {S : SS} (h : SeqM w B S) {m : Nat} {v : Value} (hm : w.heap[m]? = some (.cells #[v] 24)) : ¬ B.has m := fun hk => by
  obtain ⟨c, t, fr, e, _, ht, _⟩ := h.typB hk
  rw [hm] at e
  simp at e
  exact ht e.2.1.symm
theorem SeqM.noBl {w : World} {B : Bk} {S : SS} (h : SeqM w B S) {m : Nat} {v : Value} (hm : w.heap[m]? = some (.cells #[v] 4)) : ¬ B.has m := fun hk => by
  obtain ⟨c, t, fr, e, _, _, ht, _⟩ := h.typB hk
  rw [hm] at e
  simp at e
  exact ht e.2.1.symm
/-- A writer under way: the sequence, and where it goes on. -/
structure NmQ (w W0 W : World) (A0 : Bk) (pa ba bb : Nat) (S : SS) (ac ak bc bk : Int) : Prop where
  touch : Touch A0.has W0 W
  seq : ∃ A, Sq1 w W pa A S ∧ ∀ x, A.has x → A0.has x ∨ W0.heap.size ≤ x
  ha : W.heap[ba]? = some (idO ac ak)
  hb : W.heap[bb]? = some (idO bc bk)
  na : W0.heap.size ≤ ba
  nb : W0.heap.size ≤ bb
  ne : ba ≠ bb
section
variable {w W0 W : World} {A0 : Bk} {pa ba bb : Nat} {S : SS} {ac ak bc bk : Int}
theorem NmQ.on (h : NmQ w W0 W A0 pa ba bb S ac ak bc bk) {W' : World} (t : Touch (fun _ => False) W W') : NmQ w W0 W' A0 pa ba bb S ac ak bc bk := by
  obtain ⟨A, a, b⟩ := h.seq
  exact ⟨h.touch.then t fun _ _ e => e.elim, ⟨A, a.touch t, b⟩, heap_keep t h.ha, heap_keep t h.hb, h.na, h.nb, h.ne⟩
theorem NmQ.old (h : NmQ w W0 W A0 pa ba bb S ac ak bc bk) {k : Nat} {o : Obj} (hk : W0.heap[k]? = some o) (hn : ¬ A0.has k) : W.heap[k]? = some o := (h.touch.block _ (lt_of_heap hk) hn).trans hk
theorem NmQ.ins (h : NmQ w W0 W A0 pa ba bb S ac ak bc bk) (u : Un) (hu : u.ok) {n : Nat} (hz : Size S n) (hn : n ≤ 1000000) :
    Calls Try.prog 14 #[.pointer (some ⟨pa, 0, none⟩), .agg #[.int .u64 u.c, .int .u64 u.k, .int .u64 u.lc, .int .u64 u.lk, .int .u64 u.rc, .int .u64 u.rk]] W fun e w' => e = .returned (.bool (S.may u 1)) ∧ NmQ w W0 w' A0 pa ba bb (S.run u 1) ac ak bc bk ∧ ∀ (m : Nat) (v : Un), W.heap[m]? = some (unO v) → w'.heap[m]? = some (unO v) := by
  obtain ⟨A, a, b⟩ := h.seq
  refine (a.ins u hu hz hn).mono ?_
  rintro e w' ⟨rfl, A', h1, h2, t⟩
  have hsz := h.touch.size
  refine ⟨rfl, ⟨h.touch.then t fun k hk e => ?_, ⟨A', h1, fun x hx => ?_⟩, (t.block _ (lt_of_heap h.ha) (a.mem.noId h.ha)).trans h.ha, (t.block _ (lt_of_heap h.hb) (a.mem.noId h.hb)).trans h.hb, h.na, h.nb, h.ne⟩, fun m v hm => (t.block _ (lt_of_heap hm) (a.mem.noBox hm)).trans hm⟩
  · rcases b k e with e | e
    · exact e
    · omega
  · rcases h2 x hx with e | e
    · exact b x e
    · exact .inr (by omega)
theorem NmQ.setA (h : NmQ w W0 W A0 pa ba bb S ac ak bc bk) (c k : Int) : NmQ w W0 ((W.setCell ⟨ba, 0, none⟩ (.int .u64 c)).setCell ⟨ba, 1, none⟩ (.int .u64 k)) A0 pa ba bb S c k bc bk := by
  obtain ⟨A, a, b⟩ := h.seq
  have t : Touch (fun y => y = ba) W ((W.setCell ⟨ba, 0, none⟩ (.int .u64 c)).setCell ⟨ba, 1, none⟩ (.int .u64 k)) := ((Touch.refl (fun y => y = ba) W).setCell ⟨ba, 0, none⟩ _ (fun _ => rfl)).setCell ⟨ba, 1, none⟩ _ (fun _ => rfl)
  have hn := a.mem.noId h.ha
  have hna := h.na
  refine ⟨h.touch.then t fun k hk e => by omega, ⟨A, ⟨a.mem.keep t fun x hx e => by rw [e] at hx; exact hn hx, a.at_, a.new, a.inv⟩, b⟩, heap_setCell_same _ _ _ _ (heap_setCell_same _ _ _ _ h.ha), (t.block _ (lt_of_heap h.hb) (fun e => h.ne e.symm)).trans h.hb, h.na, h.nb, h.ne⟩
theorem NmQ.setB (h : NmQ w W0 W A0 pa ba bb S ac ak bc bk) (c k : Int) : NmQ w W0 ((W.setCell ⟨bb, 0, none⟩ (.int .u64 c)).setCell ⟨bb, 1, none⟩ (.int .u64 k)) A0 pa ba bb S ac ak c k := by
  obtain ⟨A, a, b⟩ := h.seq
  have t : Touch (fun y => y = bb) W ((W.setCell ⟨bb, 0, none⟩ (.int .u64 c)).setCell ⟨bb, 1, none⟩ (.int .u64 k)) := ((Touch.refl (fun y => y = bb) W).setCell ⟨bb, 0, none⟩ _ (fun _ => rfl)).setCell ⟨bb, 1, none⟩ _ (fun _ => rfl)
  have hn := a.mem.noId h.hb
  have hnb := h.nb
  refine ⟨h.touch.then t fun k hk e => by omega, ⟨A, ⟨a.mem.keep t fun x hx e => by rw [e] at hx; exact hn hx, a.at_, a.new, a.inv⟩, b⟩, (t.block _ (lt_of_heap h.ha) h.ne).trans h.ha, heap_setCell_same _ _ _ _ (heap_setCell_same _ _ _ _ h.hb), h.na, h.nb, h.ne⟩
end
theorem unO_there {W : World} {m : Nat} {u : Un} (h : W.heap[m]? = some (unO u)) : W.there m 0 6 := fun j hj => by
  obtain ⟨k0, k1, k2, k3, k4, k5⟩ := unO_cells h
  refine ⟨?_, free_of_block h⟩
  rw [Nat.zero_add]
  rcases j with _ | _ | _ | _ | _ | _ | j
  · rw [k0]; rfl
  · rw [k1]; rfl
  · rw [k2]; rfl
  · rw [k3]; rfl
  · rw [k4]; rfl
  · rw [k5]; rfl
  · omega
theorem unO_stored {W : World} {m : Nat} {u : Un} (h : W.heap[m]? = some (unO u)) {a b c d e f : Int} : (W.setCells m 0 [.int .u64 a, .int .u64 b, .int .u64 c, .int .u64 d, .int .u64 e, .int .u64 f]).heap[m]? = some (unO ⟨a, b, c, d, e, f⟩) :=
  heap_setCell_same _ _ _ _ (heap_setCell_same _ _ _ _ (heap_setCell_same _ _ _ _ (heap_setCell_same _ _ _ _ (heap_setCell_same _ _ _ _ (heap_setCell_same _ _ _ _ h)))))
theorem stored_fresh {X W : World} (t : Touch (fun _ => False) X W) {m : Nat} (hm : X.heap.size ≤ m) {a b c d e f : Value} : Touch (fun _ => False) X (W.setCells m 0 [a, b, c, d, e, f]) :=
  (((((t.fresh _ _ _ hm).fresh _ _ _ hm).fresh _ _ _ hm).fresh _ _ _ hm).fresh _ _ _ hm).fresh _ _ _ hm
theorem two_new (W : World) (o p : Obj) : ((W.alloc o).alloc p).drew.heap[W.heap.size]? = some o ∧ ((W.alloc o).alloc p).drew.heap[W.heap.size + 1]? = some p := by
  have e : (W.alloc o).heap.size = W.heap.size + 1 := by simp
  refine ⟨heap_keep (((Touch.refl (fun _ => False) (W.alloc o)).alloc p).drew) (heap_alloc_new _ _), ?_⟩
  rw [← e]
  exact heap_alloc_new (W.alloc o) p
set_option maxHeartbeats 16000000 in
/-- A writer's units, one by one. -/
theorem write_any {w W0 : World} {A0 : Bk} {pa ml mr ms mb : Nat} {Ss : Nat → SS} {c lc lk rc rk : Int} {back : Bool} {n N : Nat} (hs0 : Sq1 w W0 pa A0 (Ss 0)) (Hl : W0.heap[ml]? = some (idO lc lk)) (Hr : W0.heap[mr]? = some (idO rc rk)) (Hs : W0.heap[ms]? = some (.cells #[.pointer (some ⟨pa, 0, none⟩)] 24)) (Hb : W0.heap[mb]? = some (.cells #[.bool back] 4))
    (hn : n ≤ 20) (hN : N ≤ 1000) (hc : 1 ≤ c ∧ c ≤ 1000) (hu : ∀ i, i < n → (nmU back c lc lk rc rk i).ok ∧ Size (Ss i) (N + i) ∧ (Ss i).may (nmU back c lc lk rc rk i) 1 = true ∧ Ss (i + 1) = (Ss i).run (nmU back c lc lk rc rk i) 1) :
    Calls Try.prog 25 #[.int .u64 c, .int .i64 (n : Int), .pointer (some ⟨ml, 0, none⟩), .pointer (some ⟨mr, 0, none⟩), .pointer (some ⟨ms, 0, none⟩), .pointer (some ⟨mb, 0, none⟩)] W0 fun e w' => e = .returned (.bool true) ∧ Touch A0.has W0 w' ∧ ∃ A, Sq1 w w' pa A (Ss n) ∧ ∀ x, A.has x → A0.has x ∨ W0.heap.size ≤ x := by
  have HU : Hid (∀ i, i < n → (nmU back c lc lk rc rk i).ok ∧ Size (Ss i) (N + i) ∧ (Ss i).may (nmU back c lc lk rc rk i) 1 = true ∧ Ss (i + 1) = (Ss i).run (nmU back c lc lk rc rk i) 1) := hu
  have HId : Hid (∀ a b W, Calls Try.prog 15 #[.int .u64 a, .int .u64 b] W fun e w' => e = .returned (.agg #[.int .u64 a, .int .u64 b]) ∧ Touch (fun _ => False) W w') := fun a b W => id_any a b W
  have HMs : Hid (∀ W ba bb S ac ak bc bk, NmQ w W0 W A0 pa ba bb S ac ak bc bk → W.cell? ⟨ms, 0, none⟩ = some (.pointer (some ⟨pa, 0, none⟩)) ∧ W.cell? ⟨mb, 0, none⟩ = some (.bool back)) := fun W ba bb S ac ak bc bk h => ⟨by rw [cell_of_block (h.old Hs (hs0.mem.noPt Hs))]; rfl, by rw [cell_of_block (h.old Hb (hs0.mem.noBl Hb))]; rfl⟩
  obtain ⟨l0, l1⟩ := idO_cells Hl
  obtain ⟨r0, r1⟩ := idO_cells Hr
  have HK0 : Hid (∀ W ba bb, Touch (fun _ => False) W0 W → W.heap[ba]? = some (idO lc lk) → W.heap[bb]? = some (idO rc rk) → W0.heap.size ≤ ba → W0.heap.size ≤ bb → ba ≠ bb → NmQ w W0 W A0 pa ba bb (Ss 0) lc lk rc rk) := fun W ba bb t h1 h2 h3 h4 h5 => ⟨t.mono fun _ _ e => e.elim, ⟨A0, hs0.touch t, fun x hx => .inl hx⟩, h1, h2, h3, h4, h5⟩
  have HC : Hid (∀ W, Touch (fun _ => False) W0 W → W.cell? ⟨ml, 0, none⟩ = some (.int .u64 lc) ∧ W.cell? ⟨ml, 1, none⟩ = some (.int .u64 lk) ∧ W.cell? ⟨mr, 0, none⟩ = some (.int .u64 rc) ∧ W.cell? ⟨mr, 1, none⟩ = some (.int .u64 rk)) := fun W t => by
    obtain ⟨a, b⟩ := idO_cells (heap_keep t Hl)
    obtain ⟨c, d⟩ := idO_cells (heap_keep t Hr)
    exact ⟨a, b, c, d⟩
  clear hu hs0 Hl Hr Hs Hb
  go_enter Try.func25, Try.ntmps25
  go_upto_region 1 with fail
  go_cut [9, 10] (fun s t wx => ∃ ba bb, s = .pointer (some ⟨ba, 0, none⟩) ∧ t = .pointer (some ⟨bb, 0, none⟩) ∧ Hid (NmQ w W0 wx A0 pa ba bb (Ss 0) lc lk rc rk))
  case first =>
    go_wp2_with fail
    go_region_held3 (fun W => W.cell? ⟨ml, 0, none⟩ = some (.int .u64 lc) ∧ W.cell? ⟨ml, 1, none⟩ = some (.int .u64 lk) ∧ W.cell? ⟨mr, 0, none⟩ = some (.int .u64 rc) ∧ W.cell? ⟨mr, 1, none⟩ = some (.int .u64 rk)) (first | assumption | exact HC.out _ (by repeat (first | exact Touch.refl _ _ | apply Touch.drew | apply Touch.alloc | (apply Touch.fresh _ _ _ _ (by simp))))) (fail)
    all_goals (try go_wp2_with fail)
    all_goals go_meet
    · case rel => exact ⟨_, _, rfl, rfl, HK0.out _ _ _ (((Touch.refl _ W0).alloc _).alloc _).drew (two_new W0 _ _).1 (two_new W0 _ _).2 (Nat.le_refl _) (by omega) (by omega)⟩
    · case rel => exact ⟨_, _, rfl, rfl, HK0.out _ _ _ (((Touch.refl _ W0).alloc _).alloc _).drew (two_new W0 _ _).2 (two_new W0 _ _).1 (by omega) (Nat.le_refl _) (by omega)⟩
  case rest =>
    obtain ⟨ba, bb, rfl, rfl, HQ⟩ := hcut
    obtain ⟨W1, hwf⟩ : ∃ we, we = wc := ⟨_, rfl⟩
    subst hwf
    clear HK0 HC l0 l1 r0 r1
    go_wp2_with fail
    go_loopw [11, 12] (fun i u wr => ∃ j : Nat, i = .int .i64 (j : Int) ∧ j ≤ n ∧ Hid (NmQ w W0 wr A0 pa ba bb (Ss j) (nmU back c lc lk rc rk j).lc (nmU back c lc lk rc rk j).lk (nmU back c lc lk rc rk j).rc (nmU back c lc lk rc rk j).rk)) (fun i u _ => (n - intOf i).toNat)
    case atStart => exact ⟨0, rfl, Nat.zero_le _, HQ.out⟩
    case round =>
      obtain ⟨j, rfl, hj, HJ⟩ := hrel
      clear HQ
      by_cases hlt : j < n
      rotate_left
      · have hjl : j = n := by omega
        subst hjl
        clear HU
        go_wp2_with fail
        go_ret
        exact ⟨rfl, HJ.out.touch, HJ.out.seq⟩
      · obtain ⟨hVo, hVz, hVm, hVs⟩ := HU.out j hlt
        obtain ⟨hV1, hV2⟩ := nmU_id (back := back) (c := c) (lc := lc) (lk := lk) (rc := rc) (rk := rk) j
        have HIn : Hid (∀ W ac ak bc bk, NmQ w W0 W A0 pa ba bb (Ss j) ac ak bc bk → Calls Try.prog 14 #[.pointer (some ⟨pa, 0, none⟩), .agg #[.int .u64 (nmU back c lc lk rc rk j).c, .int .u64 (nmU back c lc lk rc rk j).k, .int .u64 (nmU back c lc lk rc rk j).lc, .int .u64 (nmU back c lc lk rc rk j).lk, .int .u64 (nmU back c lc lk rc rk j).rc, .int .u64 (nmU back c lc lk rc rk j).rk]] W fun e w' => e = .returned (.bool true) ∧ NmQ w W0 w' A0 pa ba bb (Ss (j + 1)) ac ak bc bk ∧ ∀ (m : Nat) (v : Un), W.heap[m]? = some (unO v) → w'.heap[m]? = some (unO v)) := fun W ac ak bc bk h => by
          have := h.ins _ hVo hVz (by omega)
          rw [hVm, ← hVs] at this
          exact this
        have HNx : Hid ((nmU back c lc lk rc rk (j + 1)).lc = (if back then (nmU back c lc lk rc rk j).lc else c) ∧ (nmU back c lc lk rc rk (j + 1)).lk = (if back then (nmU back c lc lk rc rk j).lk else (j : Int) + 1) ∧ (nmU back c lc lk rc rk (j + 1)).rc = (if back then c else (nmU back c lc lk rc rk j).rc) ∧ (nmU back c lc lk rc rk (j + 1)).rk = (if back then (j : Int) + 1 else (nmU back c lc lk rc rk j).rk)) := by
          show (nmU back c lc lk rc rk (j + 1)).lc = _ ∧ _
          unfold nmU
          rw [if_neg (by omega)]
          cases back <;> by_cases h0 : j = 0 <;> simp [h0]
        have HWk : Hid (∀ W S, NmQ w W0 W A0 pa ba bb S (nmU back c lc lk rc rk j).lc (nmU back c lc lk rc rk j).lk (nmU back c lc lk rc rk j).rc (nmU back c lc lk rc rk j).rk → True) := fun _ _ _ => trivial
        rw [hV1, hV2] at HIn
        clear hVo hVz hVm hVs hV1 hV2 HU HWk
        obtain ⟨S', hS'⟩ : ∃ s, Hid (s = Ss (j + 1)) := ⟨_, Eq.refl _⟩
        obtain ⟨V', hV'⟩ : ∃ s, Hid (s = nmU back c lc lk rc rk (j + 1)) := ⟨_, Eq.refl _⟩
        rw [← hS'.out] at HIn
        rw [← hV'.out] at HNx
        generalize (nmU back c lc lk rc rk j).lc = ac at *
        generalize (nmU back c lc lk rc rk j).lk = ak at *
        generalize (nmU back c lc lk rc rk j).rc = bc at *
        generalize (nmU back c lc lk rc rk j).rk = bk at *
        generalize Ss j = S at *
        have HCa : Hid (∀ W, Touch (fun _ => False) wr W → W.cell? ⟨ba, 0, none⟩ = some (.int .u64 ac) ∧ W.cell? ⟨ba, 1, none⟩ = some (.int .u64 ak) ∧ W.cell? ⟨bb, 0, none⟩ = some (.int .u64 bc) ∧ W.cell? ⟨bb, 1, none⟩ = some (.int .u64 bk)) := fun W t => by
          obtain ⟨a, b⟩ := idO_cells (heap_keep t HJ.out.ha)
          obtain ⟨c, d⟩ := idO_cells (heap_keep t HJ.out.hb)
          exact ⟨a, b, c, d⟩
        have l0 : (j : Int) < (n : Int) := by omega
        have ew1 : IntKind.i64.wrap ((j : Int) + 1) = (j : Int) + 1 := by rw [IntKind.wrap_i64]; omega
        have ew2 : IntKind.u64.wrap ((j : Int) + 1) = (j : Int) + 1 := wrap_u64_small _ (by omega) (by omega)
        go_upto_region 5 with fail
        go_cut [12] (fun t wx => ∃ m, t = .pointer (some ⟨m, 0, none⟩) ∧ Hid (Touch (fun _ => False) wr wx ∧ wx.heap[m]? = some (unO ⟨c, (j : Int) + 1, ac, ak, bc, bk⟩)))
        case first =>
          clear HIn HNx HJ HMs
          obtain ⟨X, hX⟩ : ∃ X, X = wr := ⟨_, rfl⟩
          subst hX
          have S0 := HCa.out _ (Touch.refl _ X).drew
          refine wp_region_held_drew (S := fun W : World => W.cell? ⟨ba, 0, none⟩ = some (.int .u64 ac) ∧ W.cell? ⟨ba, 1, none⟩ = some (.int .u64 ak) ∧ W.cell? ⟨bb, 0, none⟩ = some (.int .u64 bc) ∧ W.cell? ⟨bb, 1, none⟩ = some (.int .u64 bk)) (by kernel_rfl) S0 (fun hHeld => ?_)
          refine wpAnyH_take (i := 0) (oi := { dst := some 20, op := Go.Op.move (Go.Operand.tmp 0), type := 31, pos := "law.go:300", after := #[], guard := none }) (v := .int .u64 c) rfl (by kernel_rfl) (by kernel_rfl) (by kernel_rfl) (fun _ _ _ h => h) (Or.inl ⟨by rfl, ?_⟩) hHeld ?_
          · intro w hSw; clear hSw; go_simp
          simp only [Act.put, List.setIfInBounds_toArray, List.set_cons_succ, List.set_cons_zero]
          refine wpAnyH_take (i := 1) (oi := { dst := some 21, op := Go.Op.move (Go.Operand.tmp 11), type := 3, pos := "law.go:300", after := #[], guard := none }) (v := .int .i64 (j : Int)) rfl (by kernel_rfl) (by kernel_rfl) (by kernel_rfl) (fun _ _ _ h => h) (Or.inl ⟨by rfl, ?_⟩) hHeld ?_
          · intro w hSw; clear hSw; go_simp
          simp only [Act.put, List.setIfInBounds_toArray, List.set_cons_succ, List.set_cons_zero]
          refine wpAnyH_take (i := 2) (oi := { dst := some 22, op := Go.Op.binOp Go.BinOp.add 3 (Go.Operand.tmp 21) (Go.Operand.const (Go.Value.int Go.IntKind.i64 1)) 3, type := 3, pos := "law.go:300", after := #[{ on := 1, ground := Go.Ground.data }], guard := none }) (v := .int .i64 ((j : Int) + 1)) rfl (by kernel_rfl) (by kernel_rfl) (by kernel_rfl) (fun _ _ _ h => h) (Or.inl ⟨by rfl, ?_⟩) hHeld ?_
          · intro w hSw; clear hSw; go_simp
          simp only [Act.put, List.setIfInBounds_toArray, List.set_cons_succ, List.set_cons_zero]
          refine wpAnyH_take (i := 3) (oi := { dst := some 23, op := Go.Op.convert 3 31 (Go.Operand.tmp 22), type := 31, pos := "law.go:300", after := #[{ on := 2, ground := Go.Ground.data }], guard := none }) (v := .int .u64 ((j : Int) + 1)) rfl (by kernel_rfl) (by kernel_rfl) (by kernel_rfl) (fun _ _ _ h => h) (Or.inl ⟨by rfl, ?_⟩) hHeld ?_
          · intro w hSw; clear hSw; go_simp
          simp only [Act.put, List.setIfInBounds_toArray, List.set_cons_succ, List.set_cons_zero]
          refine wpAnyH_take (i := 5) (oi := { dst := some 25, op := Go.Op.load 33 (Go.Operand.tmp 9), type := 33, pos := "law.go:300", after := #[], guard := none }) (v := .agg #[.int .u64 ac, .int .u64 ak]) rfl (by kernel_rfl) (by kernel_rfl) (by kernel_rfl) (fun _ _ _ h => h) (Or.inl ⟨by rfl, ?_⟩) hHeld ?_
          · intro w hSw; obtain ⟨s1, s2, s3, s4⟩ := hSw; go_simp
          simp only [Act.put, List.setIfInBounds_toArray, List.set_cons_succ, List.set_cons_zero]
          refine wpAnyH_take (i := 6) (oi := { dst := some 26, op := Go.Op.load 33 (Go.Operand.tmp 10), type := 33, pos := "law.go:300", after := #[], guard := none }) (v := .agg #[.int .u64 bc, .int .u64 bk]) rfl (by kernel_rfl) (by kernel_rfl) (by kernel_rfl) (fun _ _ _ h => h) (Or.inl ⟨by rfl, ?_⟩) hHeld ?_
          · intro w hSw; obtain ⟨s1, s2, s3, s4⟩ := hSw; go_simp
          simp only [Act.put, List.setIfInBounds_toArray, List.set_cons_succ, List.set_cons_zero]
          refine wpAnyH_ready (rs := [4, 8]) (by kernel_rfl) (by simp) ?_
          refine (AllReadyH.cons (o := { dst := some 24, op := Go.Op.call { callee := Go.Callee.value (Go.Operand.func 15), args := #[Go.Operand.tmp 20, Go.Operand.tmp 23], argTypes := #[31, 31] }, type := 33, pos := "law.go:300", after := #[{ on := 0, ground := Go.Ground.data }, { on := 3, ground := Go.Ground.data }], guard := none }) rfl (fun K hK => ?_) (AllReadyH.cons (o := { dst := some 12, op := Go.Op.alloc 35, type := 0, pos := "law.go:300", after := #[], guard := none }) rfl (fun K hK => ?_) AllReadyH.nil))
          · go_simp
            refine (HId.out _ _ _).mono ?_
            rintro e w1 ⟨rfl, t1⟩
            have HT1 : Hid (Touch (fun _ => False) X w1 ∧ ∀ k o, (X).heap[k]? = some o → w1.heap[k]? = some o) := ⟨((Touch.refl _ X).drew).trans t1, fun k o h => heap_keep t1 h⟩
            have S1 := HCa.out w1 HT1.out.1
            clear t1
            refine hK.out _ _ S1 (fun hHeld => ?_)
            clear hK K
            try simp only [Act.put, List.setIfInBounds_toArray, List.set_cons_succ, List.set_cons_zero]
            refine wpAnyH_take (i := 7) (oi := { dst := some 27, op := Go.Op.build 35 #[(0, Go.Operand.tmp 24), (1, Go.Operand.tmp 25), (2, Go.Operand.tmp 26)], type := 35, pos := "law.go:300", after := #[{ on := 4, ground := Go.Ground.data }, { on := 5, ground := Go.Ground.data }, { on := 6, ground := Go.Ground.data }], guard := none }) (v := .agg #[.int .u64 c, .int .u64 ((j : Int) + 1), .int .u64 ac, .int .u64 ak, .int .u64 bc, .int .u64 bk]) rfl (by kernel_rfl) (by kernel_rfl) (by kernel_rfl) (fun _ _ _ h => h) (Or.inl ⟨by rfl, ?_⟩) hHeld ?_
            · intro w hSw; clear hSw; go_simp
            simp only [Act.put, List.setIfInBounds_toArray, List.set_cons_succ, List.set_cons_zero]
            refine wpAnyH_ready (rs := [8]) (by kernel_rfl) (by simp) ?_
            refine (AllReadyH.cons (o := { dst := some 12, op := Go.Op.alloc 35, type := 0, pos := "law.go:300", after := #[], guard := none }) rfl (fun K hK => ?_) AllReadyH.nil)
            go_simp
            refine hK.out _ _ (show (w1.alloc zeroUO).cell? ⟨ba, 0, none⟩ = some (.int .u64 ac) ∧ (w1.alloc zeroUO).cell? ⟨ba, 1, none⟩ = some (.int .u64 ak) ∧ (w1.alloc zeroUO).cell? ⟨bb, 0, none⟩ = some (.int .u64 bc) ∧ (w1.alloc zeroUO).cell? ⟨bb, 1, none⟩ = some (.int .u64 bk) from HCa.out _ (HT1.out.1.alloc _)) (fun hHeld => ?_)
            clear hK K
            try simp only [Act.put, List.setIfInBounds_toArray, List.set_cons_succ, List.set_cons_zero]
            have HB : Hid ((w1.alloc zeroUO).heap[w1.heap.size]? = some (unO .zero)) := heap_alloc_new _ _
            have HTh : Hid ((w1.alloc zeroUO).there w1.heap.size 0 6) := unO_there HB.out
            have HTX : Hid (Touch (fun _ => False) X ((w1.alloc zeroUO).setCells w1.heap.size 0 [.int .u64 c, .int .u64 ((j : Int) + 1), .int .u64 ac, .int .u64 ak, .int .u64 bc, .int .u64 bk]) ∧ ((w1.alloc zeroUO).setCells w1.heap.size 0 [.int .u64 c, .int .u64 ((j : Int) + 1), .int .u64 ac, .int .u64 ak, .int .u64 bc, .int .u64 bk]).heap[w1.heap.size]? = some (unO ⟨c, (j : Int) + 1, ac, ak, bc, bk⟩)) := ⟨stored_fresh (HT1.out.1.alloc _) (HT1.out.1.size), unO_stored HB.out⟩
            have S3 := HCa.out _ HTX.out.1
            refine wpAnyH_ready (rs := [9]) (by kernel_rfl) (by simp) ?_
            refine (AllReadyH.cons (o := { dst := none, op := Go.Op.store 35 (Go.Operand.tmp 12) (Go.Operand.tmp 27), type := 0, pos := "law.go:300", after := #[{ on := 8, ground := Go.Ground.data }, { on := 7, ground := Go.Ground.data }, { on := 4, ground := Go.Ground.chain }, { on := 0, ground := Go.Ground.phase }, { on := 1, ground := Go.Ground.phase }, { on := 2, ground := Go.Ground.phase }, { on := 3, ground := Go.Ground.phase }, { on := 4, ground := Go.Ground.phase }, { on := 5, ground := Go.Ground.phase }, { on := 6, ground := Go.Ground.phase }, { on := 7, ground := Go.Ground.phase }, { on := 8, ground := Go.Ground.phase }], guard := none }) rfl (fun K hK => ?_) AllReadyH.nil)
            rw [if_pos (by rfl)]
            refine wp_store_mid 35 (.tmp 12) (.tmp 27) rfl w1.heap.size 0 _ rfl rfl HTh.out (by kernel_rfl) (by kernel_rfl) ?_
            refine hK.out _ _ S3 (fun hHeld => ?_)
            clear hK K
            try simp only [Act.put, List.setIfInBounds_toArray, List.set_cons_succ, List.set_cons_zero]
            refine wpAnyH_done (by kernel_rfl) ?_ _
            try simp only [List.getElem_toArray, List.getElem_cons_succ, List.getElem_cons_zero, List.setIfInBounds_toArray, List.set_cons_succ, List.set_cons_zero]
            try go_wp2_with fail
            go_meet
            case rel => exact ⟨_, rfl, HTX.out⟩
          · go_simp
            refine hK.out _ _ (show (X.alloc zeroUO).drew.cell? ⟨ba, 0, none⟩ = some (.int .u64 ac) ∧ (X.alloc zeroUO).drew.cell? ⟨ba, 1, none⟩ = some (.int .u64 ak) ∧ (X.alloc zeroUO).drew.cell? ⟨bb, 0, none⟩ = some (.int .u64 bc) ∧ (X.alloc zeroUO).drew.cell? ⟨bb, 1, none⟩ = some (.int .u64 bk) from HCa.out _ (((Touch.refl _ X).alloc _).drew)) (fun hHeld => ?_)
            clear hK K
            try simp only [Act.put, List.setIfInBounds_toArray, List.set_cons_succ, List.set_cons_zero]
            refine wpAnyH_ready (rs := [4]) (by kernel_rfl) (by simp) ?_
            refine (AllReadyH.cons (o := { dst := some 24, op := Go.Op.call { callee := Go.Callee.value (Go.Operand.func 15), args := #[Go.Operand.tmp 20, Go.Operand.tmp 23], argTypes := #[31, 31] }, type := 33, pos := "law.go:300", after := #[{ on := 0, ground := Go.Ground.data }, { on := 3, ground := Go.Ground.data }], guard := none }) rfl (fun K hK => ?_) AllReadyH.nil)
            go_simp
            refine (HId.out _ _ _).mono ?_
            rintro e w1 ⟨rfl, t1⟩
            have HT1 : Hid (Touch (fun _ => False) X w1 ∧ ∀ k o, (X.alloc zeroUO).heap[k]? = some o → w1.heap[k]? = some o) := ⟨(((Touch.refl _ X).alloc _).drew).trans t1, fun k o h => heap_keep t1 h⟩
            have S1 := HCa.out w1 HT1.out.1
            clear t1
            refine hK.out _ _ S1 (fun hHeld => ?_)
            clear hK K
            try simp only [Act.put, List.setIfInBounds_toArray, List.set_cons_succ, List.set_cons_zero]
            refine wpAnyH_take (i := 7) (oi := { dst := some 27, op := Go.Op.build 35 #[(0, Go.Operand.tmp 24), (1, Go.Operand.tmp 25), (2, Go.Operand.tmp 26)], type := 35, pos := "law.go:300", after := #[{ on := 4, ground := Go.Ground.data }, { on := 5, ground := Go.Ground.data }, { on := 6, ground := Go.Ground.data }], guard := none }) (v := .agg #[.int .u64 c, .int .u64 ((j : Int) + 1), .int .u64 ac, .int .u64 ak, .int .u64 bc, .int .u64 bk]) rfl (by kernel_rfl) (by kernel_rfl) (by kernel_rfl) (fun _ _ _ h => h) (Or.inl ⟨by rfl, ?_⟩) hHeld ?_
            · intro w hSw; clear hSw; go_simp
            simp only [Act.put, List.setIfInBounds_toArray, List.set_cons_succ, List.set_cons_zero]
            have HB : Hid (w1.heap[X.heap.size]? = some (unO .zero)) := HT1.out.2 _ _ (heap_alloc_new _ _)
            have HTh : Hid (w1.there X.heap.size 0 6) := unO_there HB.out
            have HTX : Hid (Touch (fun _ => False) X (w1.setCells X.heap.size 0 [.int .u64 c, .int .u64 ((j : Int) + 1), .int .u64 ac, .int .u64 ak, .int .u64 bc, .int .u64 bk]) ∧ (w1.setCells X.heap.size 0 [.int .u64 c, .int .u64 ((j : Int) + 1), .int .u64 ac, .int .u64 ak, .int .u64 bc, .int .u64 bk]).heap[X.heap.size]? = some (unO ⟨c, (j : Int) + 1, ac, ak, bc, bk⟩)) := ⟨stored_fresh (HT1.out.1) (Nat.le_refl _), unO_stored HB.out⟩
            have S3 := HCa.out _ HTX.out.1
            refine wpAnyH_ready (rs := [9]) (by kernel_rfl) (by simp) ?_
            refine (AllReadyH.cons (o := { dst := none, op := Go.Op.store 35 (Go.Operand.tmp 12) (Go.Operand.tmp 27), type := 0, pos := "law.go:300", after := #[{ on := 8, ground := Go.Ground.data }, { on := 7, ground := Go.Ground.data }, { on := 4, ground := Go.Ground.chain }, { on := 0, ground := Go.Ground.phase }, { on := 1, ground := Go.Ground.phase }, { on := 2, ground := Go.Ground.phase }, { on := 3, ground := Go.Ground.phase }, { on := 4, ground := Go.Ground.phase }, { on := 5, ground := Go.Ground.phase }, { on := 6, ground := Go.Ground.phase }, { on := 7, ground := Go.Ground.phase }, { on := 8, ground := Go.Ground.phase }], guard := none }) rfl (fun K hK => ?_) AllReadyH.nil)
            rw [if_pos (by rfl)]
            refine wp_store_mid 35 (.tmp 12) (.tmp 27) rfl X.heap.size 0 _ rfl rfl HTh.out (by kernel_rfl) (by kernel_rfl) ?_
            refine hK.out _ _ S3 (fun hHeld => ?_)
            clear hK K
            try simp only [Act.put, List.setIfInBounds_toArray, List.set_cons_succ, List.set_cons_zero]
            refine wpAnyH_done (by kernel_rfl) ?_ _
            try simp only [List.getElem_toArray, List.getElem_cons_succ, List.getElem_cons_zero, List.setIfInBounds_toArray, List.set_cons_succ, List.set_cons_zero]
            try go_wp2_with fail
            go_meet
            case rel => exact ⟨_, rfl, HTX.out⟩
        case rest =>
          obtain ⟨m, rfl, HB⟩ := hcut
          obtain ⟨W2, hwf⟩ : ∃ we, we = wc := ⟨_, rfl⟩
          subst hwf
          have H2 : Hid (NmQ w W0 W2 A0 pa ba bb S ac ak bc bk) := HJ.out.on HB.out.1
          obtain ⟨x0, -⟩ := HMs.out _ _ _ _ _ _ _ _ H2.out
          obtain ⟨q0, q1, q2, q3, q4, q5⟩ := unO_cells HB.out.2
          simp only at q0 q1 q2 q3 q4 q5
          clear HJ HCa ew2
          go_wp2_with fail
          refine (HIn.out _ _ _ _ _ H2.out).mono ?_
          rintro e W3 ⟨rfl, h3, k3⟩
          have H3 : Hid (NmQ w W0 W3 A0 pa ba bb S' ac ak bc bk) := h3
          have HM3 : Hid (W3.heap[m]? = some (unO ⟨c, (j : Int) + 1, ac, ak, bc, bk⟩)) := k3 m _ HB.out.2
          obtain ⟨-, x1⟩ := HMs.out _ _ _ _ _ _ _ _ h3
          clear h3 k3 HIn H2 HB x0 q0 q1 q2 q3 q4 q5
          obtain ⟨q0, q1, -, -, -, -⟩ := unO_cells HM3.out
          simp only at q0 q1
          clear HM3
          cases back with
          | true =>
            have HB3 : Hid (W3.heap[bb]? = some (idO bc bk)) := H3.out.hb
            obtain ⟨y0, y1⟩ := idO_cells HB3.out
            have z0 : W3.frozen? ⟨bb, 0, none⟩ = false := free_of_block HB3.out
            have s1 := heap_setCell_same W3 bb 0 (.int .u64 c) HB3.out
            have y2 : (W3.setCell ⟨bb, 0, none⟩ (.int .u64 c)).cell? ⟨bb, 1, none⟩ = some (.int .u64 bk) := by rw [cell_of_block s1]; rfl
            have z1 : (W3.setCell ⟨bb, 0, none⟩ (.int .u64 c)).frozen? ⟨bb, 1, none⟩ = false := free_of_block s1
            have HN : Hid (NmQ w W0 ((W3.setCell ⟨bb, 0, none⟩ (.int .u64 c)).setCell ⟨bb, 1, none⟩ (.int .u64 ((j : Int) + 1))) A0 pa ba bb S' V'.lc V'.lk V'.rc V'.rk) := by
              have := H3.out.setB c ((j : Int) + 1)
              obtain ⟨e1, e2, e3, e4⟩ := HNx.out
              rw [show V'.lc = _ from e1, show V'.lk = _ from e2, show V'.rc = _ from e3, show V'.rk = _ from e4]
              exact this
            clear s1 HNx HB3 H3
            go_wp2_with fail
            exact ⟨⟨j + 1, by go_num, by omega, by have h := HN.out; rw [hS'.out, hV'.out] at h; exact h⟩, by simp [intOf]; omega⟩
          | false =>
            have HB3 : Hid (W3.heap[ba]? = some (idO ac ak)) := H3.out.ha
            obtain ⟨y0, y1⟩ := idO_cells HB3.out
            have z0 : W3.frozen? ⟨ba, 0, none⟩ = false := free_of_block HB3.out
            have s1 := heap_setCell_same W3 ba 0 (.int .u64 c) HB3.out
            have y2 : (W3.setCell ⟨ba, 0, none⟩ (.int .u64 c)).cell? ⟨ba, 1, none⟩ = some (.int .u64 ak) := by rw [cell_of_block s1]; rfl
            have z1 : (W3.setCell ⟨ba, 0, none⟩ (.int .u64 c)).frozen? ⟨ba, 1, none⟩ = false := free_of_block s1
            have HN : Hid (NmQ w W0 ((W3.setCell ⟨ba, 0, none⟩ (.int .u64 c)).setCell ⟨ba, 1, none⟩ (.int .u64 ((j : Int) + 1))) A0 pa ba bb S' V'.lc V'.lk V'.rc V'.rk) := by
              have := H3.out.setA c ((j : Int) + 1)
              obtain ⟨e1, e2, e3, e4⟩ := HNx.out
              rw [show V'.lc = _ from e1, show V'.lk = _ from e2, show V'.rc = _ from e3, show V'.rk = _ from e4]
              exact this
            clear s1 HNx HB3 H3
            go_wp2_with fail
            exact ⟨⟨j + 1, by go_num, by omega, by have h := HN.out; rw [hS'.out, hV'.out] at h; exact h⟩, by simp [intOf]; omega⟩
end Go.Proofs.Ytnbphdmpbjahhaa
