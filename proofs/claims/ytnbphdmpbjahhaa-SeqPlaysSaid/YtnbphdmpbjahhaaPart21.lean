/- The document's tree of units (quireref9) in memory. -/
import Derived.Test.YtnbphdmpbjahhaaPart20
import Derived.Test.YtnbphdmpbjahhaaPart9
import Derived.Test.YtnbphdmpbjahhaaPart10
import Derived.BigRegion
import Derived.BigQuiet
namespace Go.Proofs.Ytnbphdmpbjahhaa
open Go.RowKit Go.Maps
set_option linter.unusedVariables false
set_option linter.unusedSimpArgs false
set_option maxRecDepth 100000

/-- Node numbers, as ints. -/
abbrev ints (l : List Nat) : List Int := l.map Int.ofNat
/-- A node's cells: its children's lists as slices. -/
structure Mn where
  u : Un
  par : Int
  left : Bool
  lv : Value
  mv : Value
def cellMn (n : Mn) : List Value := [u64 n.u.c, u64 n.u.k, u64 n.u.lc, u64 n.u.lk, u64 n.u.rc, u64 n.u.rk, iV n.par, .bool n.left, n.lv, n.mv]
theorem cellMn_len (n : Mn) : (cellMn n).length = 10 := rfl
structure MnAt (w : World) (m : Mn) (n : Nd) : Prop where
  u : m.u = n.u
  par : m.par = n.par
  left : m.left = n.left
  lefts : SlJ w m.lv (ints n.lefts)
  more : SlJ w m.mv (ints n.more)
theorem MnAt.keep {w w' : World} {m : Mn} {n : Nd} (h : MnAt w m n) (t : Touch (fun _ => False) w w') : MnAt w' m n := ⟨h.u, h.par, h.left, h.lefts.touch t, h.more.touch t⟩
/-- The tree lies in the block b. -/
structure RqAt (w : World) (b : Nat) (r : RS) : Prop where
  blk : ∃ c, w.heap[b]? = some (.cells c 30 (0, 0))
  l : ∃ (v : Value) (M : List Mn), w.cell? ⟨b, 0, none⟩ = some v ∧ w.ownsRow 0 84 10 v r.l.length (M.flatMap cellMn) ∧ M.length = r.l.length ∧ ∀ i (h : i < M.length) (h' : i < r.l.length), MnAt w M[i] r.l[i]
  more : ∃ v, w.cell? ⟨b, 1, none⟩ = some v ∧ SlJ w v (ints r.more)
  ord : ∃ v, w.cell? ⟨b, 2, none⟩ = some v ∧ SlJ w v (ints r.order)
theorem RqAt.keep {w w' : World} {b : Nat} {r : RS} (h : RqAt w b r) (t : Touch (fun _ => False) w w') : RqAt w' b r := by
  obtain ⟨c, hc⟩ := h.blk
  have hb := t.block b (lt_of_heap hc) id
  refine ⟨⟨c, hb.trans hc⟩, ?_, ?_, ?_⟩
  · obtain ⟨v, M, h1, h2, h3, h4⟩ := h.l
    refine ⟨v, M, (World.cell?_of_block hb).trans h1, ⟨h2.1, ?_⟩, h3, fun i h h' => (h4 i h h').keep t⟩
    rcases h2.2 with h | ⟨g, cap, cur, rfl, q, hg, r⟩
    · exact .inl h
    · exact .inr ⟨g, cap, cur, rfl, q, (t.block g (lt_of_heap hg) id).trans hg, r⟩
  · obtain ⟨v, h1, h2⟩ := h.more
    exact ⟨v, (World.cell?_of_block hb).trans h1, h2.touch t⟩
  · obtain ⟨v, h1, h2⟩ := h.ord
    exact ⟨v, (World.cell?_of_block hb).trans h1, h2.touch t⟩
theorem RqAt.lt {w : World} {b : Nat} {r : RS} (h : RqAt w b r) : b < w.heap.size := by
  obtain ⟨c, hc⟩ := h.blk
  exact lt_of_heap hc
abbrev qP (b : Nat) : Value := .pointer (some ⟨b, 0, none⟩)
/-- A node's cells. -/
structure NdCells (w : World) (g i : Nat) (n : Nd) : Prop where
  c0 : w.cell? ⟨g, i * 10, none⟩ = some (u64 n.u.c)
  c1 : w.cell? ⟨g, i * 10 + 1, none⟩ = some (u64 n.u.k)
  c2 : w.cell? ⟨g, i * 10 + 2, none⟩ = some (u64 n.u.lc)
  c3 : w.cell? ⟨g, i * 10 + 3, none⟩ = some (u64 n.u.lk)
  c4 : w.cell? ⟨g, i * 10 + 4, none⟩ = some (u64 n.u.rc)
  c5 : w.cell? ⟨g, i * 10 + 5, none⟩ = some (u64 n.u.rk)
  c6 : w.cell? ⟨g, i * 10 + 6, none⟩ = some (iV n.par)
  c7 : w.cell? ⟨g, i * 10 + 7, none⟩ = some (.bool n.left)
  c8 : ∃ v, w.cell? ⟨g, i * 10 + 8, none⟩ = some v ∧ SlJ w v (ints n.lefts)
  c9 : ∃ v, w.cell? ⟨g, i * 10 + 9, none⟩ = some v ∧ SlJ w v (ints n.more)
/-- The nodes' slice, and their cells. -/
theorem RqAt.nodes {w : World} {b : Nat} {r : RS} (h : RqAt w b r) : ∃ ao cap, w.cell? ⟨b, 0, none⟩ = some (.slice ao r.l.length cap) ∧ (0 < r.l.length → ∃ g, ao = some ⟨g, 0, none⟩ ∧ ∀ i, i < r.l.length → NdCells w g i (r.nd i)) := by
  obtain ⟨v, M, h1, h2, hl, h3⟩ := h.l
  rcases h2.2 with ⟨e, h0⟩ | ⟨g, cap, cur, e, q0, hg, q1, q2, q3, q4⟩
  · exact ⟨none, 0, by rw [h1, e, h0], fun h => by omega⟩
  · refine ⟨some ⟨g, 0, none⟩, cap, by rw [h1, e], fun _ => ⟨g, rfl, fun i hi => ?_⟩⟩
    have hi' : i < M.length := by omega
    have k := h3 i hi' hi
    have X : ∀ f v, f < 10 → (cellMn M[i])[f]? = some v → w.cell? ⟨g, i * 10 + f, none⟩ = some v := fun f v hf hv => by
      rw [cell_of_block hg, ← Array.getElem?_toList, ← hv, ← flat_get cellMn 10 cellMn_len M i hi' f hf, ← q4]
      refine (List.getElem?_take_of_lt ?_).symm
      omega
    rw [RS.nd_of hi]
    refine ⟨?_, ?_, ?_, ?_, ?_, ?_, ?_, ?_, ⟨_, X 8 _ (by omega) rfl, k.lefts⟩, ⟨_, X 9 _ (by omega) rfl, k.more⟩⟩
    · rw [← k.u]; exact X 0 _ (by omega) rfl
    · rw [← k.u]; exact X 1 _ (by omega) rfl
    · rw [← k.u]; exact X 2 _ (by omega) rfl
    · rw [← k.u]; exact X 3 _ (by omega) rfl
    · rw [← k.u]; exact X 4 _ (by omega) rfl
    · rw [← k.u]; exact X 5 _ (by omega) rfl
    · rw [← k.par]; exact X 6 _ (by omega) rfl
    · rw [← k.left]; exact X 7 _ (by omega) rfl
/-- A list of numbers, and its cells. -/
theorem SlJ.nums {w : World} {v : Value} {l : List Nat} (h : SlJ w v (ints l)) : ∃ ao cap, v = .slice ao l.length cap ∧ (0 < l.length → ∃ g o, ao = some ⟨g, o, none⟩ ∧ ∀ i (hi : i < l.length), w.cell? ⟨g, o + i, none⟩ = some (iV (l[i] : Int))) := by
  by_cases h0 : l = []
  · subst h0
    obtain ⟨ao, cap, e, _⟩ := h.shape
    exact ⟨ao, cap, e, fun h => by simp at h⟩
  · obtain ⟨g, o, cap, e, _, _, _, hx⟩ := h.row (by simpa using h0)
    refine ⟨some ⟨g, o, none⟩, cap, by simpa using e, fun _ => ⟨g, o, rfl, fun i hi => ?_⟩⟩
    have := hx i (by simpa using hi)
    simpa using this
end Go.Proofs.Ytnbphdmpbjahhaa

/- The document's tree of units (quireref9): find, place, Find, Len. -/
namespace Go.Proofs.Ytnbphdmpbjahhaa
open Go.RowKit
set_option linter.unusedVariables false
set_option linter.unusedSimpArgs false
set_option maxRecDepth 100000

theorem RS.find_none {r : RS} {c k : Int} (h : ∀ i, i < r.l.length → isId c k (r.nd i) = false) : r.find c k = -1 := by
  have : r.l.findIdx? (isId c k) = none := by
    rw [List.findIdx?_eq_none_iff]
    intro x hx
    obtain ⟨i, hi, rfl⟩ := List.mem_iff_getElem.1 hx
    rw [← RS.nd_of hi]; exact h i hi
  unfold RS.find
  rw [this]; rfl
theorem RS.find_some {r : RS} {c k : Int} {j : Nat} (hj : j < r.l.length) (h : ∀ i, i < j → isId c k (r.nd i) = false) (hk : isId c k (r.nd j) = true) : r.find c k = (j : Int) := by
  have : r.l.findIdx? (isId c k) = some j := by
    rw [List.findIdx?_eq_some_iff_getElem]
    refine ⟨hj, by rw [← RS.nd_of hj]; exact hk, fun i hi => ?_⟩
    rw [← RS.nd_of (by omega)]
    simp [h i hi]
  unfold RS.find
  rw [this]; rfl
theorem RS.place_none {r : RS} {n : Int} (h : ∀ i (hi : i < r.order.length), (((r.order[i] : Nat) : Int) == n) = false) : r.place n = -1 := by
  have : r.order.findIdx? (fun x : Nat => (Int.ofNat x == n)) = none := by
    rw [List.findIdx?_eq_none_iff]
    intro x hx
    obtain ⟨i, hi, rfl⟩ := List.mem_iff_getElem.1 hx
    exact h i hi
  unfold RS.place
  rw [this]; rfl
theorem RS.place_some {r : RS} {n : Int} {j : Nat} (hj : j < r.order.length) (h : ∀ i (hi : i < r.order.length), i < j → (((r.order[i] : Nat) : Int) == n) = false) (hk : (((r.order[j] : Nat) : Int) == n) = true) : r.place n = (j : Int) := by
  have : r.order.findIdx? (fun x : Nat => (Int.ofNat x == n)) = some j := by
    rw [List.findIdx?_eq_some_iff_getElem]
    refine ⟨hj, hk, fun i hi => ?_⟩
    have := h i (by omega) hi
    simpa using this
  unfold RS.place
  rw [this]; rfl
theorem RS.find_lt {r : RS} (c k : Int) : -1 ≤ r.find c k ∧ r.find c k < r.l.length := by
  unfold RS.find
  cases h : r.l.findIdx? (isId c k) with
  | none => simp [idxI]; omega
  | some i =>
    have := (List.findIdx?_eq_some_iff_getElem.1 h).1
    simp [idxI]; omega
theorem RS.place_lt {r : RS} (n : Int) : -1 ≤ r.place n ∧ r.place n < r.order.length ∨ r.place n = -1 := by
  unfold RS.place
  cases h : r.order.findIdx? (fun x : Nat => (Int.ofNat x == n)) with
  | none => right; rfl
  | some i =>
    have := (List.findIdx?_eq_some_iff_getElem.1 h).1
    left; simp [idxI]; omega
set_option maxHeartbeats 8000000 in
theorem qlen_any {w : World} {b : Nat} {r : RS} (h : RqAt w b r) :
    Calls Try.prog 42 #[qP b] w fun e w' => e = .returned (iV (r.order.length : Int)) ∧ w' = w := by
  obtain ⟨v, h1, h2⟩ := h.ord
  obtain ⟨ao, cap, rfl, -⟩ := h2.nums
  clear h h2
  generalize r.order.length = n at *
  go_enter Try.func42, Try.ntmps42
  go_wp2_with fail
  go_ret
  exact ⟨rfl, rfl⟩
set_option maxHeartbeats 8000000 in
theorem qfind_any {w : World} {b : Nat} {r : RS} (h : RqAt w b r) (c k : Int) (hl : r.l.length ≤ 1073741824) :
    Calls Try.prog 33 #[qP b, idV c k] w fun e w' => e = .returned (iV (r.find c k)) ∧ Touch (fun _ => False) w w' := by
  obtain ⟨E, hE⟩ : ∃ E, Hid (E = w.alloc (idO c k)) := ⟨_, Eq.refl _⟩
  have HT : Hid (Touch (fun _ => False) w E) := by rw [hE.out]; exact (Touch.refl _ _).alloc _
  have HB : Hid (∀ W, Touch (fun _ => False) E W → W.cell? ⟨w.heap.size, 0, none⟩ = some (u64 c) ∧ W.cell? ⟨w.heap.size, 1, none⟩ = some (u64 k)) := fun W t => idO_cells (heap_keep t (by rw [hE.out]; exact heap_alloc_new w _))
  have HN : Hid ((∀ i, i < r.l.length → isId c k (r.nd i) = false) → r.find c k = -1) := RS.find_none
  have HS : Hid (∀ j, j < r.l.length → (∀ i, i < j → isId c k (r.nd i) = false) → isId c k (r.nd j) = true → r.find c k = (j : Int)) := fun j a b c => RS.find_some a b c
  have HC : Hid (∀ W, Touch (fun _ => False) E W → ∃ ao cap, W.cell? ⟨b, 0, none⟩ = some (.slice ao r.l.length cap) ∧ (0 < r.l.length → ∃ g, ao = some ⟨g, 0, none⟩ ∧ ∀ i, i < r.l.length → W.cell? ⟨g, i * 10, none⟩ = some (u64 (r.nd i).u.c) ∧ W.cell? ⟨g, i * 10 + 1, none⟩ = some (u64 (r.nd i).u.k))) := fun W t => by
    obtain ⟨ao, cap, h1, h2⟩ := (h.keep (HT.out.trans t)).nodes
    refine ⟨ao, cap, h1, fun h0 => ?_⟩
    obtain ⟨g, e, h3⟩ := h2 h0
    exact ⟨g, e, fun i hi => ⟨(h3 i hi).c0, (h3 i hi).c1⟩⟩
  clear h
  generalize r.find c k = res at *
  generalize hn : r.l.length = n at *
  clear hn
  go_enter Try.func33, Try.ntmps33
  go_upto_region 1 with fail
  rw [← hE.out]
  clear hE
  generalize w.heap.size = B0 at *
  go_wp2_with fail
  go_loopw [5] (fun i wr => ∃ j : Nat, i = .int .i64 (j : Int) ∧ j ≤ n ∧ Hid ((∀ i, i < j → isId c k (r.nd i) = false) ∧ Touch (fun _ => False) E wr)) (fun i _ => (n - intOf i).toNat)
  case atStart => exact ⟨0, rfl, Nat.zero_le _, (fun i hi => absurd hi (Nat.not_lt_zero _)), Touch.refl _ _⟩
  case round =>
    obtain ⟨j, rfl, hj, HJ⟩ := hrel
    obtain ⟨ao, cap, q1, q2⟩ := HC.out _ HJ.out.2
    obtain ⟨b0, b1⟩ := HB.out _ HJ.out.2
    by_cases hlt : j < n
    · obtain ⟨g, rfl, q3⟩ := q2 (by omega)
      obtain ⟨c0, c1⟩ := q3 j hlt
      clear q2 q3
      have HI : Hid (isId c k (r.nd j) = ((r.nd j).u.c == c && (r.nd j).u.k == k)) := Eq.refl _
      have l0 : (j : Int) < (n : Int) := by omega
      generalize (r.nd j).u.c = uc at *
      generalize (r.nd j).u.k = uk at *
      cases e1 : (uc == c) with
      | false =>
        have HF : Hid (isId c k (r.nd j) = false) := by rw [HI.out, e1]; rfl
        clear HI
        go_wp2_with fail
        go_quiet (fail)
        go_wp2_with fail
        refine ⟨⟨j + 1, by go_num, by omega, fun i hi => ?_, ?_⟩, by simp [intOf]; omega⟩
        · rcases Nat.lt_or_ge i j with x | x
          · exact HJ.out.1 i x
          · rw [show i = j from by omega]; exact HF.out
        · exact HJ.out.2.drewN _
      | true =>
        cases e2 : (uk == k) with
        | false =>
          have HF : Hid (isId c k (r.nd j) = false) := by rw [HI.out, e1, e2]; rfl
          clear HI
          go_wp2_with fail
          go_quiet (fail)
          go_wp2_with fail
          refine ⟨⟨j + 1, by go_num, by omega, fun i hi => ?_, ?_⟩, by simp [intOf]; omega⟩
          · rcases Nat.lt_or_ge i j with x | x
            · exact HJ.out.1 i x
            · rw [show i = j from by omega]; exact HF.out
          · exact HJ.out.2.drewN _
        | true =>
          have HF : Hid (res = (j : Int)) := HS.out j hlt HJ.out.1 (by rw [HI.out, e1, e2]; rfl)
          clear HI
          go_wp2_with fail
          go_quiet (fail)
          go_wp2_with fail
          go_ret
          exact ⟨congrArg (fun x => Ending.returned (iV x)) HF.out.symm, (HT.out.trans HJ.out.2).drewN _⟩
    · have hjn : j = n := by omega
      subst hjn
      have HF : Hid (res = -1) := HN.out HJ.out.1
      clear q2
      go_wp2_with fail
      go_ret
      exact ⟨congrArg (fun x => Ending.returned (iV x)) HF.out.symm, HT.out.trans HJ.out.2⟩
set_option maxHeartbeats 8000000 in
theorem qplace_any {w : World} {b : Nat} {r : RS} (h : RqAt w b r) (m : Int) (hl : r.order.length ≤ 1073741824) :
    Calls Try.prog 37 #[qP b, iV m] w fun e w' => e = .returned (iV (r.place m)) ∧ w' = w := by
  have HN : Hid ((∀ i (hi : i < r.order.length), (((r.order[i] : Nat) : Int) == m) = false) → r.place m = -1) := RS.place_none
  have HS : Hid (∀ j (hj : j < r.order.length), (∀ i (hi : i < r.order.length), i < j → (((r.order[i] : Nat) : Int) == m) = false) → (((r.order[j] : Nat) : Int) == m) = true → r.place m = (j : Int)) := fun j a b c => RS.place_some a b c
  obtain ⟨v, q1, h2⟩ := h.ord
  obtain ⟨ao, cap, rfl, q2⟩ := h2.nums
  clear h h2
  generalize r.place m = res at *
  generalize r.order = L at *
  obtain ⟨n, hn⟩ : ∃ n, Hid (n = L.length) := ⟨_, Eq.refl _⟩
  rw [← hn.out] at q1 hl
  go_enter Try.func37, Try.ntmps37
  go_wp2_with fail
  go_loopw [5] (fun i wr => ∃ j : Nat, i = .int .i64 (j : Int) ∧ j ≤ n ∧ wr = w ∧ Hid (∀ i (hi : i < L.length), i < j → (((L[i] : Nat) : Int) == m) = false)) (fun i _ => (n - intOf i).toNat)
  case atStart => exact ⟨0, rfl, Nat.zero_le _, rfl, fun i hi h => absurd h (Nat.not_lt_zero _)⟩
  case round =>
    obtain ⟨j, rfl, hj, hwr, HJ⟩ := hrel
    rw [hwr]
    clear hwr
    by_cases hlt : j < n
    · have hlt' : j < L.length := by rw [← hn.out]; exact hlt
      obtain ⟨g, o, rfl, q3⟩ := q2 (by omega)
      have c0 := q3 j hlt'
      clear q2 q3
      have HI := HS.out j hlt' HJ.out
      have HX : Hid (∀ i (hi : i < L.length), i = j → ((L[i] : Nat) : Int) = ((L[j] : Nat) : Int)) := fun i hi e => by subst e; rfl
      have l0 : (j : Int) < (n : Int) := by omega
      generalize L[j] = x at *
      cases e1 : ((x : Int) == m) with
      | false =>
        clear HI
        go_wp2_with fail
        refine ⟨⟨j + 1, by go_num, by omega, trivial, fun i hi h => ?_⟩, by simp [intOf]; omega⟩
        rcases Nat.lt_or_ge i j with y | y
        · exact HJ.out i hi y
        · rw [HX.out i hi (by omega)]; exact e1
      | true =>
        have HF : Hid (res = (j : Int)) := HI e1
        clear HI
        go_wp2_with fail
        go_ret
        exact ⟨congrArg (fun x => Ending.returned (iV x)) HF.out.symm, rfl⟩
    · have hjn : j = n := by omega
      have HF : Hid (res = -1) := HN.out fun i hi => HJ.out i hi (by rw [hjn, hn.out]; exact hi)
      subst hjn
      clear q2
      go_wp2_with fail
      go_ret
      exact ⟨congrArg (fun x => Ending.returned (iV x)) HF.out.symm, rfl⟩
set_option maxHeartbeats 8000000 in
theorem qfindP_any {w : World} {b : Nat} {r : RS} (h : RqAt w b r) (c k : Int) (hl : r.l.length ≤ 1073741824) (ho : r.order.length ≤ 1073741824) :
    Calls Try.prog 74 #[qP b, idV c k] w fun e w' => e = .returned (iV (r.findP c k)) ∧ Touch (fun _ => False) w w' := by
  obtain ⟨E, hE⟩ : ∃ E, Hid (E = w.alloc (idO c k)) := ⟨_, Eq.refl _⟩
  have HT : Hid (Touch (fun _ => False) w E) := by rw [hE.out]; exact (Touch.refl _ _).alloc _
  have hB := idO_cells (W := E) (n := w.heap.size) (c := c) (k := k) (by rw [hE.out]; exact heap_alloc_new w _)
  obtain ⟨b0, b1⟩ := hB
  have HF : Hid (Calls Try.prog 33 #[qP b, .agg #[u64 c, u64 k]] E fun e w' => e = .returned (iV (r.find c k)) ∧ Touch (fun _ => False) E w') := qfind_any (h.keep HT.out) c k hl
  have HP : Hid (∀ W, Touch (fun _ => False) E W → Calls Try.prog 37 #[qP b, iV (r.find c k)] W fun e w' => e = .returned (iV (r.place (r.find c k))) ∧ w' = W) := fun W t => qplace_any (h.keep (HT.out.trans t)) _ ho
  unfold RS.findP
  clear h
  generalize r.place (r.find c k) = pl at *
  generalize r.find c k = fd at *
  obtain ⟨res, hres⟩ : ∃ x, Hid (x = if fd < 0 then -1 else pl) := ⟨_, Eq.refl _⟩
  rw [← hres.out]
  go_enter Try.func74, Try.ntmps74
  go_upto_region 1 with fail
  rw [← hE.out]
  clear hE
  generalize w.heap.size = B0 at *
  go_wp2_with fail
  refine HF.out.mono ?_
  rintro e W1 ⟨rfl, t1⟩
  have HT1 : Hid (Touch (fun _ => False) E W1) := t1
  clear t1 HF
  by_cases hlt : fd < 0
  · have HR : Hid (res = -1) := by rw [hres.out]; exact if_pos hlt
    go_wp2_with fail
    go_ret
    exact ⟨congrArg (fun x => Ending.returned (iV x)) HR.out.symm, HT.out.trans HT1.out⟩
  · have HR : Hid (res = pl) := by rw [hres.out]; exact if_neg hlt
    go_wp2_with fail
    refine (HP.out _ HT1.out).mono ?_
    rintro e w2 ⟨rfl, hw⟩
    rw [hw]
    clear hw
    go_wp2_with fail
    go_ret
    exact ⟨congrArg (fun x => Ending.returned (iV x)) HR.out.symm, HT.out.trans HT1.out⟩
end Go.Proofs.Ytnbphdmpbjahhaa
