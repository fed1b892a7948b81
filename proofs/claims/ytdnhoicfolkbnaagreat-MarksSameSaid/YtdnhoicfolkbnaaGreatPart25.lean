/- The document's tree of units (quireref9) in memory. -/
import Derived.Test.YtdnhoicfolkbnaaGreatPart24
import Derived.Test.YtdnhoicfolkbnaaGreatPart7
import Derived.Test.YtdnhoicfolkbnaaGreatPart8
import Derived.BigRegion
import Derived.BigQuiet
namespace Go.Proofs.YtdnhoicfolkbnaaGreat
open Go.RowKit Go.Maps
set_option linter.unusedVariables false
set_option linter.unusedSimpArgs false
set_option maxRecDepth 100000

/-- Node numbers, as ints. -/
abbrev ints (l : List Nat) : List Int := l.map Int.ofNat
/-- A node's cells: its children's lists as slices. -/
structure Mn where
  u : Un
  par : Int
  left : Bool
  lv : Value
  mv : Value
def cellMn (n : Mn) : List Value := [u64 n.u.c, u64 n.u.k, u64 n.u.lc, u64 n.u.lk, u64 n.u.rc, u64 n.u.rk, iV n.par, .bool n.left, n.lv, n.mv]
theorem cellMn_len (n : Mn) : (cellMn n).length = 10 := rfl
structure MnAt (w : World) (m : Mn) (n : Nd) : Prop where
  u : m.u = n.u
  par : m.par = n.par
  left : m.left = n.left
  lefts : SlJ w m.lv (ints n.lefts)
  more : SlJ w m.mv (ints n.more)
theorem MnAt.keep {w w' : World} {m : Mn} {n : Nd} (h : MnAt w m n) (t : Touch (fun _ => False) w w') : MnAt w' m n := ⟨h.u, h.par, h.left, h.lefts.touch t, h.more.touch t⟩
/-- The tree lies in the block b. -/
structure RqAt (w : World) (b : Nat) (r : RS) : Prop where
  blk : ∃ c, w.heap[b]? = some (.cells c 75 (0, 0))
  l : ∃ (v : Value) (M : List Mn), w.cell? ⟨b, 0, none⟩ = some v ∧ w.ownsRow 0 98 10 v r.l.length (M.flatMap cellMn) ∧ M.length = r.l.length ∧ ∀ i (h : i < M.length) (h' : i < r.l.length), MnAt w M[i] r.l[i]
  more : ∃ v, w.cell? ⟨b, 1, none⟩ = some v ∧ SlJ w v (ints r.more)
  ord : ∃ v, w.cell? ⟨b, 2, none⟩ = some v ∧ SlJ w v (ints r.order)
theorem RqAt.keep {w w' : World} {b : Nat} {r : RS} (h : RqAt w b r) (t : Touch (fun _ => False) w w') : RqAt w' b r := by
  obtain ⟨c, hc⟩ := h.blk
  have hb := t.block b (lt_of_heap hc) id
  refine ⟨⟨c, hb.trans hc⟩, ?_, ?_, ?_⟩
  · obtain ⟨v, M, h1, h2, h3, h4⟩ := h.l
    refine ⟨v, M, (World.cell?_of_block hb).trans h1, ⟨h2.1, ?_⟩, h3, fun i h h' => (h4 i h h').keep t⟩
    rcases h2.2 with h | ⟨g, cap, cur, rfl, q, hg, r⟩
    · exact .inl h
    · exact .inr ⟨g, cap, cur, rfl, q, (t.block g (lt_of_heap hg) id).trans hg, r⟩
  · obtain ⟨v, h1, h2⟩ := h.more
    exact ⟨v, (World.cell?_of_block hb).trans h1, h2.touch t⟩
  · obtain ⟨v, h1, h2⟩ := h.ord
    exact ⟨v, (World.cell?_of_block hb).trans h1, h2.touch t⟩
theorem RqAt.lt {w : World} {b : Nat} {r : RS} (h : RqAt w b r) : b < w.heap.size := by
  obtain ⟨c, hc⟩ := h.blk
  exact lt_of_heap hc
abbrev qP (b : Nat) : Value := .pointer (some ⟨b, 0, none⟩)
/-- A node's cells. -/
structure NdCells (w : World) (g i : Nat) (n : Nd) : Prop where
  c0 : w.cell? ⟨g, i * 10, none⟩ = some (u64 n.u.c)
  c1 : w.cell? ⟨g, i * 10 + 1, none⟩ = some (u64 n.u.k)
  c2 : w.cell? ⟨g, i * 10 + 2, none⟩ = some (u64 n.u.lc)
  c3 : w.cell? ⟨g, i * 10 + 3, none⟩ = some (u64 n.u.lk)
  c4 : w.cell? ⟨g, i * 10 + 4, none⟩ = some (u64 n.u.rc)
  c5 : w.cell? ⟨g, i * 10 + 5, none⟩ = some (u64 n.u.rk)
  c6 : w.cell? ⟨g, i * 10 + 6, none⟩ = some (iV n.par)
  c7 : w.cell? ⟨g, i * 10 + 7, none⟩ = some (.bool n.left)
  c8 : ∃ v, w.cell? ⟨g, i * 10 + 8, none⟩ = some v ∧ SlJ w v (ints n.lefts)
  c9 : ∃ v, w.cell? ⟨g, i * 10 + 9, none⟩ = some v ∧ SlJ w v (ints n.more)
/-- The nodes' slice, and their cells. -/
theorem RqAt.nodes {w : World} {b : Nat} {r : RS} (h : RqAt w b r) : ∃ ao cap, w.cell? ⟨b, 0, none⟩ = some (.slice ao r.l.length cap) ∧ (0 < r.l.length → ∃ g, ao = some ⟨g, 0, none⟩ ∧ ∀ i, i < r.l.length → NdCells w g i (r.nd i)) := by
  obtain ⟨v, M, h1, h2, hl, h3⟩ := h.l
  rcases h2.2 with ⟨e, h0⟩ | ⟨g, cap, cur, e, q0, hg, q1, q2, q3, q4⟩
  · exact ⟨none, 0, by rw [h1, e, h0], fun h => by omega⟩
  · refine ⟨some ⟨g, 0, none⟩, cap, by rw [h1, e], fun _ => ⟨g, rfl, fun i hi => ?_⟩⟩
    have hi' : i < M.length := by omega
    have k := h3 i hi' hi
    have X : ∀ f v, f < 10 → (cellMn M[i])[f]? = some v → w.cell? ⟨g, i * 10 + f, none⟩ = some v := fun f v hf hv => by
      rw [cell_of_block hg, ← Array.getElem?_toList, ← hv, ← flat_get cellMn 10 cellMn_len M i hi' f hf, ← q4]
      refine (List.getElem?_take_of_lt ?_).symm
      omega
    rw [RS.nd_of hi]
    refine ⟨?_, ?_, ?_, ?_, ?_, ?_, ?_, ?_, ⟨_, X 8 _ (by omega) rfl, k.lefts⟩, ⟨_, X 9 _ (by omega) rfl, k.more⟩⟩
    · rw [← k.u]; exact X 0 _ (by omega) rfl
    · rw [← k.u]; exact X 1 _ (by omega) rfl
    · rw [← k.u]; exact X 2 _ (by omega) rfl
    · rw [← k.u]; exact X 3 _ (by omega) rfl
    · rw [← k.u]; exact X 4 _ (by omega) rfl
    · rw [← k.u]; exact X 5 _ (by omega) rfl
    · rw [← k.par]; exact X 6 _ (by omega) rfl
    · rw [← k.left]; exact X 7 _ (by omega) rfl
/-- A list of numbers, and its cells. -/
theorem SlJ.nums {w : World} {v : Value} {l : List Nat} (h : SlJ w v (ints l)) : ∃ ao cap, v = .slice ao l.length cap ∧ (0 < l.length → ∃ g o, ao = some ⟨g, o, none⟩ ∧ ∀ i (hi : i < l.length), w.cell? ⟨g, o + i, none⟩ = some (iV (l[i] : Int))) := by
  by_cases h0 : l = []
  · subst h0
    obtain ⟨ao, cap, e, _⟩ := h.shape
    exact ⟨ao, cap, e, fun h => by simp at h⟩
  · obtain ⟨g, o, cap, e, _, _, _, hx⟩ := h.row (by simpa using h0)
    refine ⟨some ⟨g, o, none⟩, cap, by simpa using e, fun _ => ⟨g, o, rfl, fun i hi => ?_⟩⟩
    have := hx i (by simpa using hi)
    simpa using this
end Go.Proofs.YtdnhoicfolkbnaaGreat

/- The document's tree of units (quireref9): find, place, Find, Len. -/
namespace Go.Proofs.YtdnhoicfolkbnaaGreat
open Go.RowKit
set_option linter.unusedVariables false
set_option linter.unusedSimpArgs false
set_option maxRecDepth 100000

theorem RS.find_none {r : RS} {c k : Int} (h : ∀ i, i < r.l.length → isId c k (r.nd i) = false) : r.find c k = -1 := by
  have : r.l.findIdx? (isId c k) = none := by
    rw [List.findIdx?_eq_none_iff]
    intro x hx
    obtain ⟨i, hi, rfl⟩ := List.mem_iff_getElem.1 hx
    rw [← RS.nd_of hi]; exact h i hi
  unfold RS.find
  rw [this]; rfl
theorem RS.find_some {r : RS} {c k : Int} {j : Nat} (hj : j < r.l.length) (h : ∀ i, i < j → isId c k (r.nd i) = false) (hk : isId c k (r.nd j) = true) : r.find c k = (j : Int) := by
  have : r.l.findIdx? (isId c k) = some j := by
    rw [List.findIdx?_eq_some_iff_getElem]
    refine ⟨hj, by rw [← RS.nd_of hj]; exact hk, fun i hi => ?_⟩
    rw [← RS.nd_of (by omega)]
    simp [h i hi]
  unfold RS.find
  rw [this]; rfl
theorem RS.place_none {r : RS} {n : Int} (h : ∀ i (hi : i < r.order.length), (((r.order[i] : Nat) : Int) == n) = false) : r.place n = -1 := by
  have : r.order.findIdx? (fun x : Nat => (Int.ofNat x == n)) = none := by
    rw [List.findIdx?_eq_none_iff]
    intro x hx
    obtain ⟨i, hi, rfl⟩ := List.mem_iff_getElem.1 hx
    exact h i hi
  unfold RS.place
  rw [this]; rfl
theorem RS.place_some {r : RS} {n : Int} {j : Nat} (hj : j < r.order.length) (h : ∀ i (hi : i < r.order.length), i < j → (((r.order[i] : Nat) : Int) == n) = false) (hk : (((r.order[j] : Nat) : Int) == n) = true) : r.place n = (j : Int) := by
  have : r.order.findIdx? (fun x : Nat => (Int.ofNat x == n)) = some j := by
    rw [List.findIdx?_eq_some_iff_getElem]
    refine ⟨hj, hk, fun i hi => ?_⟩
    have := h i (by omega) hi
    simpa using this
  unfold RS.place
  rw [this]; rfl
theorem RS.find_lt {r : RS} (c k : Int) : -1 ≤ r.find c k ∧ r.find c k < r.l.length := by
  unfold RS.find
  cases h : r.l.findIdx? (isId c k) with
  | none => simp [idxI]; omega
  | some i =>
    have := (List.findIdx?_eq_some_iff_getElem.1 h).1
    simp [idxI]; omega
theorem RS.place_lt {r : RS} (n : Int) : -1 ≤ r.place n ∧ r.place n < r.order.length ∨ r.place n = -1 := by
  unfold RS.place
  cases h : r.order.findIdx? (fun x : Nat => (Int.ofNat x == n)) with
  | none => right; rfl
  | some i =>
    have := (List.findIdx?_eq_some_iff_getElem.1 h).1
    left; simp [idxI]; omega
set_option maxHeartbeats 8000000 in
theorem qlen_any {w : World} {b : Nat} {r : RS} (h : RqAt w b r) :
    Calls Tryz.prog 18 #[qP b] w fun e w' => e = .returned (iV (r.order.length : Int)) ∧ w' = w := by
  obtain ⟨v, h1, h2⟩ := h.ord
  obtain ⟨ao, cap, rfl, -⟩ := h2.nums
  clear h h2
  generalize r.order.length = n at *
  go_enter Tryz.func18, Tryz.ntmps18
  go_wp2_with fail
  go_ret
  exact ⟨rfl, rfl⟩
set_option maxHeartbeats 8000000 in
theorem qfind_any {w : World} {b : Nat} {r : RS} (h : RqAt w b r) (c k : Int) (hl : r.l.length ≤ 1073741824) :
    Calls Tryz.prog 60 #[qP b, idV c k] w fun e w' => e = .returned (iV (r.find c k)) ∧ Touch (fun _ => False) w w' := by
  obtain ⟨E, hE⟩ : ∃ E, Hid (E = w.alloc (idO c k)) := ⟨_, Eq.refl _⟩
  have HT : Hid (Touch (fun _ => False) w E) := by rw [hE.out]; exact (Touch.refl _ _).alloc _
  have HB : Hid (∀ W, Touch (fun _ => False) E W → W.cell? ⟨w.heap.size, 0, none⟩ = some (u64 c) ∧ W.cell? ⟨w.heap.size, 1, none⟩ = some (u64 k)) := fun W t => idO_cells (heap_keep t (by rw [hE.out]; exact heap_alloc_new w _))
  have HN : Hid ((∀ i, i < r.l.length → isId c k (r.nd i) = false) → r.find c k = -1) := RS.find_none
  have HS : Hid (∀ j, j < r.l.length → (∀ i, i < j → isId c k (r.nd i) = false) → isId c k (r.nd j) = true → r.find c k = (j : Int)) := fun j a b c => RS.find_some a b c
  have HC : Hid (∀ W, Touch (fun _ => False) E W → ∃ ao cap, W.cell? ⟨b, 0, none⟩ = some (.slice ao r.l.length cap) ∧ (0 < r.l.length → ∃ g, ao = some ⟨g, 0, none⟩ ∧ ∀ i, i < r.l.length → W.cell? ⟨g, i * 10, none⟩ = some (u64 (r.nd i).u.c) ∧ W.cell? ⟨g, i * 10 + 1, none⟩ = some (u64 (r.nd i).u.k))) := fun W t => by
    obtain ⟨ao, cap, h1, h2⟩ := (h.keep (HT.out.trans t)).nodes
    refine ⟨ao, cap, h1, fun h0 => ?_⟩
    obtain ⟨g, e, h3⟩ := h2 h0
    exact ⟨g, e, fun i hi => ⟨(h3 i hi).c0, (h3 i hi).c1⟩⟩
  clear h
  generalize r.find c k = res at *
  generalize hn : r.l.length = n at *
  clear hn
  go_enter Tryz.func60, Tryz.ntmps60
  go_upto_region 1 with fail
  rw [← hE.out]
  clear hE
  generalize w.heap.size = B0 at *
  go_wp2_with fail
  go_loopw [5] (fun i wr => ∃ j : Nat, i = .int .i64 (j : Int) ∧ j ≤ n ∧ Hid ((∀ i, i < j → isId c k (r.nd i) = false) ∧ Touch (fun _ => False) E wr)) (fun i _ => (n - intOf i).toNat)
  case atStart => exact ⟨0, rfl, Nat.zero_le _, (fun i hi => absurd hi (Nat.not_lt_zero _)), Touch.refl _ _⟩
  case round =>
    obtain ⟨j, rfl, hj, HJ⟩ := hrel
    obtain ⟨ao, cap, q1, q2⟩ := HC.out _ HJ.out.2
    obtain ⟨b0, b1⟩ := HB.out _ HJ.out.2
    by_cases hlt : j < n
    · obtain ⟨g, rfl, q3⟩ := q2 (by omega)
      obtain ⟨c0, c1⟩ := q3 j hlt
      clear q2 q3
      have HI : Hid (isId c k (r.nd j) = ((r.nd j).u.c == c && (r.nd j).u.k == k)) := Eq.refl _
      have l0 : (j : Int) < (n : Int) := by omega
      generalize (r.nd j).u.c = uc at *
      generalize (r.nd j).u.k = uk at *
      cases e1 : (uc == c) with
      | false =>
        have HF : Hid (isId c k (r.nd j) = false) := by rw [HI.out, e1]; rfl
        clear HI
        go_wp2_with fail
        go_quiet (fail)
        go_wp2_with fail
        refine ⟨⟨j + 1, by go_num, by omega, fun i hi => ?_, ?_⟩, by simp [intOf]; omega⟩
        · rcases Nat.lt_or_ge i j with x | x
          · exact HJ.out.1 i x
          · rw [show i = j from by omega]; exact HF.out
        · exact HJ.out.2.drewN _
      | true =>
        cases e2 : (uk == k) with
        | false =>
          have HF : Hid (isId c k (r.nd j) = false) := by rw [HI.out, e1, e2]; rfl
          clear HI
          go_wp2_with fail
          go_quiet (fail)
          go_wp2_with fail
          refine ⟨⟨j + 1, by go_num, by omega, fun i hi => ?_, ?_⟩, by simp [intOf]; omega⟩
          · rcases Nat.lt_or_ge i j with x | x
            · exact HJ.out.1 i x
            · rw [show i = j from by omega]; exact HF.out
          · exact HJ.out.2.drewN _
        | true =>
          have HF : Hid (res = (j : Int)) := HS.out j hlt HJ.out.1 (by rw [HI.out, e1, e2]; rfl)
          clear HI
          go_wp2_with fail
          go_quiet (fail)
          go_wp2_with fail
          go_ret
          exact ⟨congrArg (fun x => Ending.returned (iV x)) HF.out.symm, (HT.out.trans HJ.out.2).drewN _⟩
    · have hjn : j = n := by omega
      subst hjn
      have HF : Hid (res = -1) := HN.out HJ.out.1
      clear q2
      go_wp2_with fail
      go_ret
      exact ⟨congrArg (fun x => Ending.returned (iV x)) HF.out.symm, HT.out.trans HJ.out.2⟩
set_option maxHeartbeats 8000000 in
theorem qplace_any {w : World} {b : Nat} {r : RS} (h : RqAt w b r) (m : Int) (hl : r.order.length ≤ 1073741824) :
    Calls Tryz.prog 61 #[qP b, iV m] w fun e w' => e = .returned (iV (r.place m)) ∧ w' = w := by
  have HN : Hid ((∀ i (hi : i < r.order.length), (((r.order[i] : Nat) : Int) == m) = false) → r.place m = -1) := RS.place_none
  have HS : Hid (∀ j (hj : j < r.order.length), (∀ i (hi : i < r.order.length), i < j → (((r.order[i] : Nat) : Int) == m) = false) → (((r.order[j] : Nat) : Int) == m) = true → r.place m = (j : Int)) := fun j a b c => RS.place_some a b c
  obtain ⟨v, q1, h2⟩ := h.ord
  obtain ⟨ao, cap, rfl, q2⟩ := h2.nums
  clear h h2
  generalize r.place m = res at *
  generalize r.order = L at *
  obtain ⟨n, hn⟩ : ∃ n, Hid (n = L.length) := ⟨_, Eq.refl _⟩
  rw [← hn.out] at q1 hl
  go_enter Tryz.func61, Tryz.ntmps61
  go_wp2_with fail
  go_loopw [5] (fun i wr => ∃ j : Nat, i = .int .i64 (j : Int) ∧ j ≤ n ∧ wr = w ∧ Hid (∀ i (hi : i < L.length), i < j → (((L[i] : Nat) : Int) == m) = false)) (fun i _ => (n - intOf i).toNat)
  case atStart => exact ⟨0, rfl, Nat.zero_le _, rfl, fun i hi h => absurd h (Nat.not_lt_zero _)⟩
  case round =>
    obtain ⟨j, rfl, hj, hwr, HJ⟩ := hrel
    rw [hwr]
    clear hwr
    by_cases hlt : j < n
    · have hlt' : j < L.length := by rw [← hn.out]; exact hlt
      obtain ⟨g, o, rfl, q3⟩ := q2 (by omega)
      have c0 := q3 j hlt'
      clear q2 q3
      have HI := HS.out j hlt' HJ.out
      have HX : Hid (∀ i (hi : i < L.length), i = j → ((L[i] : Nat) : Int) = ((L[j] : Nat) : Int)) := fun i hi e => by subst e; rfl
      have l0 : (j : Int) < (n : Int) := by omega
      generalize L[j] = x at *
      cases e1 : ((x : Int) == m) with
      | false =>
        clear HI
        go_wp2_with fail
        refine ⟨⟨j + 1, by go_num, by omega, trivial, fun i hi h => ?_⟩, by simp [intOf]; omega⟩
        rcases Nat.lt_or_ge i j with y | y
        · exact HJ.out i hi y
        · rw [HX.out i hi (by omega)]; exact e1
      | true =>
        have HF : Hid (res = (j : Int)) := HI e1
        clear HI
        go_wp2_with fail
        go_ret
        exact ⟨congrArg (fun x => Ending.returned (iV x)) HF.out.symm, rfl⟩
    · have hjn : j = n := by omega
      have HF : Hid (res = -1) := HN.out fun i hi => HJ.out i hi (by rw [hjn, hn.out]; exact hi)
      subst hjn
      clear q2
      go_wp2_with fail
      go_ret
      exact ⟨congrArg (fun x => Ending.returned (iV x)) HF.out.symm, rfl⟩
set_option maxHeartbeats 8000000 in
theorem qfindP_any {w : World} {b : Nat} {r : RS} (h : RqAt w b r) (c k : Int) (hl : r.l.length ≤ 1073741824) (ho : r.order.length ≤ 1073741824) :
    Calls Tryz.prog 37 #[qP b, idV c k] w fun e w' => e = .returned (iV (r.findP c k)) ∧ Touch (fun _ => False) w w' := by
  obtain ⟨E, hE⟩ : ∃ E, Hid (E = w.alloc (idO c k)) := ⟨_, Eq.refl _⟩
  have HT : Hid (Touch (fun _ => False) w E) := by rw [hE.out]; exact (Touch.refl _ _).alloc _
  have hB := idO_cells (W := E) (n := w.heap.size) (c := c) (k := k) (by rw [hE.out]; exact heap_alloc_new w _)
  obtain ⟨b0, b1⟩ := hB
  have HF : Hid (Calls Tryz.prog 60 #[qP b, .agg #[u64 c, u64 k]] E fun e w' => e = .returned (iV (r.find c k)) ∧ Touch (fun _ => False) E w') := qfind_any (h.keep HT.out) c k hl
  have HP : Hid (∀ W, Touch (fun _ => False) E W → Calls Tryz.prog 61 #[qP b, iV (r.find c k)] W fun e w' => e = .returned (iV (r.place (r.find c k))) ∧ w' = W) := fun W t => qplace_any (h.keep (HT.out.trans t)) _ ho
  unfold RS.findP
  clear h
  generalize r.place (r.find c k) = pl at *
  generalize r.find c k = fd at *
  obtain ⟨res, hres⟩ : ∃ x, Hid (x = if fd < 0 then -1 else pl) := ⟨_, Eq.refl _⟩
  rw [← hres.out]
  go_enter Tryz.func37, Tryz.ntmps37
  go_upto_region 1 with fail
  rw [← hE.out]
  clear hE
  generalize w.heap.size = B0 at *
  go_wp2_with fail
  refine HF.out.mono ?_
  rintro e W1 ⟨rfl, t1⟩
  have HT1 : Hid (Touch (fun _ => False) E W1) := t1
  clear t1 HF
  by_cases hlt : fd < 0
  · have HR : Hid (res = -1) := by rw [hres.out]; exact if_pos hlt
    go_wp2_with fail
    go_ret
    exact ⟨congrArg (fun x => Ending.returned (iV x)) HR.out.symm, HT.out.trans HT1.out⟩
  · have HR : Hid (res = pl) := by rw [hres.out]; exact if_neg hlt
    go_wp2_with fail
    refine (HP.out _ HT1.out).mono ?_
    rintro e w2 ⟨rfl, hw⟩
    rw [hw]
    clear hw
    go_wp2_with fail
    go_ret
    exact ⟨congrArg (fun x => Ending.returned (iV x)) HR.out.symm, HT.out.trans HT1.out⟩
end Go.Proofs.YtdnhoicfolkbnaaGreat

/- The document's tree of units (quireref9), mathematics alone: what one more node does to the order. -/
namespace Go.Proofs.YtdnhoicfolkbnaaGreat
set_option linter.unusedVariables false
set_option linter.unusedSimpArgs false

/-- Children that are there, and so are theirs, to a depth. -/
def RS.Deep (r : RS) : Nat → List Nat → Prop
  | 0, l => l = []
  | f + 1, l => ∀ x ∈ l, x < r.l.length ∧ r.Deep f (r.nd x).lefts ∧ r.Deep f (r.nd x).more
theorem RS.walk_cons (r : RS) (f : Nat) (x : Nat) (l : List Nat) : r.walk (f + 1) (x :: l) = (r.walk f (r.nd x).lefts ++ x :: r.walk f (r.nd x).more) ++ r.walk (f + 1) l := by
  simp only [RS.walk]; rw [List.flatMap_cons]
theorem RS.walk_split (r : RS) (f : Nat) (l : List Nat) (j : Nat) (hj : j < l.length) : r.walk (f + 1) (l.take (j + 1)) = r.walk (f + 1) (l.take j) ++ r.walk f (r.nd l[j]).lefts ++ [l[j]] ++ r.walk f (r.nd l[j]).more := by
  simp only [RS.walk]
  rw [List.take_succ_eq_append_getElem hj, List.flatMap_append]
  simp
theorem RS.walk_all (r : RS) (f : Nat) (l : List Nat) (j : Nat) : r.walk (f + 1) l = r.walk (f + 1) (l.take j) ++ r.walk (f + 1) (l.drop j) := by
  simp only [RS.walk]
  rw [← List.flatMap_append, List.take_append_drop]
theorem RS.walk_nil (r : RS) : ∀ f, r.walk f [] = []
  | 0 => rfl
  | f + 1 => rfl
theorem RS.walk_fuel (r : RS) : ∀ (f : Nat) (l : List Nat), r.Deep f l → r.walk (f + 1) l = r.walk f l
  | 0, l, h => by
    have : l = [] := h
    subst this; rfl
  | f + 1, [], h => rfl
  | f + 1, x :: l, h => by
    obtain ⟨_, h1, h2⟩ := h x (by simp)
    rw [RS.walk_cons, RS.walk_cons, RS.walk_fuel r f _ h1, RS.walk_fuel r f _ h2, RS.walk_fuel r (f + 1) l fun y hy => h y (List.mem_cons_of_mem _ hy)]
theorem RS.deep_up (r : RS) : ∀ (f : Nat) (l : List Nat), r.Deep f l → r.Deep (f + 1) l
  | 0, l, h => by
    have : l = [] := h
    subst this; exact fun x hx => (List.not_mem_nil hx).elim
  | f + 1, l, h => fun x hx => ⟨(h x hx).1, RS.deep_up r f _ (h x hx).2.1, RS.deep_up r f _ (h x hx).2.2⟩
/-- A list without me. -/
abbrev offL (me : Nat) (l : List Nat) : List Nat := l.filter fun x => x != me
/-- s is r with one more node, me, which has no children. -/
structure More (r s : RS) (me : Nat) : Prop where
  num : me = r.l.length
  none : (s.nd me).lefts = [] ∧ (s.nd me).more = []
  lefts : ∀ x, x < r.l.length → offL me (s.nd x).lefts = (r.nd x).lefts
  more : ∀ x, x < r.l.length → offL me (s.nd x).more = (r.nd x).more
theorem More.walk {r s : RS} {me : Nat} (h : More r s me) : ∀ (f : Nat) (l : List Nat), r.Deep f (offL me l) → offL me (s.walk (f + 1) l) = r.walk f (offL me l)
  | f, [], _ => by rw [RS.walk_nil]; show [] = r.walk f []; rw [RS.walk_nil]
  | 0, x :: l, hd => by
    have hd' : offL me (x :: l) = [] := hd
    by_cases hx : x = me
    · subst hx
      have e : offL x (x :: l) = offL x l := by simp
      have ih := More.walk h 0 l (by rw [e] at hd'; exact hd')
      rw [RS.walk_cons, e, ← ih]
      simp [RS.walk]
    · simp [hx] at hd'
  | f + 1, x :: l, hd => by
    by_cases hx : x = me
    · subst hx
      have e : offL x (x :: l) = offL x l := by simp
      have ih := More.walk h (f + 1) l (by rw [e] at hd; exact hd)
      rw [RS.walk_cons, e, ← ih, h.none.1, h.none.2, RS.walk_nil]
      simp
    · have e : offL me (x :: l) = x :: offL me l := by simp [hx]
      rw [e] at hd ⊢
      obtain ⟨h0, h1, h2⟩ := hd x (by simp)
      have ih := More.walk h (f + 1) l fun y hy => hd y (List.mem_cons_of_mem _ hy)
      have a1 := More.walk h f (s.nd x).lefts (by rw [h.lefts x h0]; exact h1)
      have a2 := More.walk h f (s.nd x).more (by rw [h.more x h0]; exact h2)
      rw [h.lefts x h0] at a1
      rw [h.more x h0] at a2
      rw [RS.walk_cons, RS.walk_cons, ← a1, ← a2, ← ih]
      simp [hx]
  termination_by f l => (f, l.length)
/-- How often me stands among a node's children. -/
def cntC (s : RS) (me x : Nat) : Nat := (s.nd x).lefts.count me + (s.nd x).more.count me
theorem More.count {r s : RS} {me : Nat} (h : More r s me) : ∀ (f : Nat) (l : List Nat), r.Deep f (offL me l) → (s.walk (f + 1) l).count me = l.count me + ((r.walk f (offL me l)).map (cntC s me)).sum
  | f, [], _ => by rw [RS.walk_nil]; show _ = 0 + ((r.walk f []).map _).sum; rw [RS.walk_nil]; rfl
  | 0, x :: l, hd => by
    have hd' : offL me (x :: l) = [] := hd
    by_cases hx : x = me
    · subst hx
      have e : offL x (x :: l) = offL x l := by simp
      have ih := More.count h 0 l (by rw [e] at hd'; exact hd')
      rw [RS.walk_cons, e]
      simp only [RS.walk, List.nil_append, List.cons_append, List.count_cons_self]
      simp only [RS.walk, List.nil_append] at ih
      rw [ih]; omega
    · simp [hx] at hd'
  | f + 1, x :: l, hd => by
    by_cases hx : x = me
    · subst hx
      have e : offL x (x :: l) = offL x l := by simp
      have ih := More.count h (f + 1) l (by rw [e] at hd; exact hd)
      rw [RS.walk_cons, e, h.none.1, h.none.2, RS.walk_nil, List.nil_append, List.count_append, ih, List.count_cons_self, List.count_cons_self, List.count_nil]
      omega
    · have e : offL me (x :: l) = x :: offL me l := by simp [hx]
      rw [e] at hd ⊢
      obtain ⟨h0, h1, h2⟩ := hd x (by simp)
      have ih := More.count h (f + 1) l fun y hy => hd y (List.mem_cons_of_mem _ hy)
      have a1 := More.count h f (s.nd x).lefts (by rw [h.lefts x h0]; exact h1)
      have a2 := More.count h f (s.nd x).more (by rw [h.more x h0]; exact h2)
      rw [h.lefts x h0] at a1
      rw [h.more x h0] at a2
      rw [RS.walk_cons, RS.walk_cons, List.count_append, List.count_append, List.count_cons_of_ne hx, List.count_cons_of_ne hx, a1, a2, ih]
      simp only [List.map_append, List.map_cons, List.sum_append, List.sum_cons, cntC]
      omega
  termination_by f l => (f, l.length)
end Go.Proofs.YtdnhoicfolkbnaaGreat

/- The document's tree of units (quireref9), mathematics alone: what is so of it. -/
namespace Go.Proofs.YtdnhoicfolkbnaaGreat
set_option linter.unusedVariables false
set_option linter.unusedSimpArgs false

theorem RS.deep_nil (r : RS) : ∀ f, r.Deep f []
  | 0 => rfl
  | f + 1 => fun x hx => (List.not_mem_nil hx).elim
theorem More.deep {r s : RS} {me : Nat} (h : More r s me) (hs : s.l.length = r.l.length + 1) : ∀ (f : Nat) (l : List Nat), r.Deep f (offL me l) → s.Deep (f + 1) l
  | 0, l, hd => fun x hx => by
    have hd' : offL me l = [] := hd
    have hx' : x = me := by
      have := (List.filter_eq_nil_iff.1 hd') x hx
      simpa using this
    subst hx'
    rw [h.none.1, h.none.2]
    have := h.num
    exact ⟨by omega, rfl, rfl⟩
  | f + 1, l, hd => fun x hx => by
    by_cases hxm : x = me
    · subst hxm
      rw [h.none.1, h.none.2]
      have := h.num
      exact ⟨by omega, RS.deep_nil s _, RS.deep_nil s _⟩
    · obtain ⟨h0, h1, h2⟩ := hd x (List.mem_filter.2 ⟨hx, by simpa using hxm⟩)
      exact ⟨by omega, More.deep h hs f _ (by rw [h.lefts x h0]; exact h1), More.deep h hs f _ (by rw [h.more x h0]; exact h2)⟩
/-- What is so of a tree. -/
structure RInv (r : RS) : Prop where
  deep : r.Deep r.l.length r.more
  ord : r.order = r.walk r.l.length r.more
  one : ∀ x, x < r.l.length → r.order.count x = 1
  len : r.order.length = r.l.length
  lt : ∀ x ∈ r.order, x < r.l.length
  kids : ∀ x, x < r.l.length → (∀ y ∈ (r.nd x).lefts, y < r.l.length) ∧ ∀ y ∈ (r.nd x).more, y < r.l.length
  root : ∀ y ∈ r.more, y < r.l.length
  up : ∀ x, x < r.l.length → -1 ≤ (r.nd x).par ∧ (r.nd x).par < (x : Int)
theorem RInv.zero : RInv .zero := ⟨rfl, rfl, fun x h => absurd h (Nat.not_lt_zero _), rfl, fun x h => (List.not_mem_nil h).elim, fun x h => absurd h (Nat.not_lt_zero _), fun x h => (List.not_mem_nil h).elim, fun x h => absurd h (Nat.not_lt_zero _)⟩
theorem off_mem {me n : Nat} (hn : me = n) {l k : List Nat} (h : offL me l = k) (hk : ∀ y ∈ k, y < n) : ∀ y ∈ l, y < n + 1 := fun y hy => by
  by_cases hm : y = me
  · omega
  · have : y ∈ offL me l := List.mem_filter.2 ⟨hy, by simpa using hm⟩
    rw [h] at this
    have := hk y this
    omega
theorem off_len (me : Nat) : ∀ l : List Nat, l.length = (offL me l).length + l.count me
  | [] => rfl
  | x :: l => by
    have ih := off_len me l
    by_cases h : x = me
    · subst h
      have e : offL x (x :: l) = offL x l := by simp
      rw [e, List.length_cons, List.count_cons_self]; omega
    · have e : offL me (x :: l) = x :: offL me l := by simp [h]
      rw [e, List.length_cons, List.length_cons, List.count_cons_of_ne h]; omega
theorem off_count (me x : Nat) (h : x ≠ me) (l : List Nat) : (offL me l).count x = l.count x := by
  unfold offL
  exact List.count_filter (by simpa using h)
/-- One more node, that stands once among the children: the order is as it was, with it. -/
theorem RInv.laid {r s : RS} {me : Nat} (hI : RInv r) (h : More r s me) (hs : s.l.length = r.l.length + 1) (hm : offL me s.more = r.more) (ho : s.order = s.walk s.l.length s.more) (hc : s.more.count me + (r.order.map (cntC s me)).sum = 1) (hu : ∀ x, x < s.l.length → -1 ≤ (s.nd x).par ∧ (s.nd x).par < (x : Int)) : RInv s ∧ offL me s.order = r.order := by
  have hw := h.walk r.l.length s.more (by rw [hm]; exact hI.deep)
  have hk := h.count r.l.length s.more (by rw [hm]; exact hI.deep)
  rw [hm, ← hI.ord] at hw hk
  rw [hs] at ho
  rw [← ho] at hw hk
  rw [hc] at hk
  have hl := off_len me s.order
  rw [hw, hk, hI.len] at hl
  have hn := h.num
  refine ⟨⟨?_, ?_, ?_, ?_, ?_, ?_, ?_, hu⟩, hw⟩
  · rw [hs]; exact h.deep hs _ _ (by rw [hm]; exact hI.deep)
  · rw [hs]; exact ho
  · intro x hx
    by_cases hxm : x = me
    · rw [hxm]; exact hk
    · rw [← off_count me x hxm, hw]; exact hI.one x (by omega)
  · rw [hl, hs]
  · intro x hx
    by_cases hxm : x = me
    · omega
    · have : x ∈ offL me s.order := List.mem_filter.2 ⟨hx, by simpa using hxm⟩
      rw [hw] at this
      have := hI.lt x this
      omega
  · intro x hx
    rw [hs] at hx ⊢
    by_cases hxm : x = me
    · subst hxm
      rw [h.none.1, h.none.2]
      exact ⟨fun y hy => (List.not_mem_nil hy).elim, fun y hy => (List.not_mem_nil hy).elim⟩
    · have hx' : x < r.l.length := by omega
      exact ⟨off_mem hn (h.lefts x hx') (hI.kids x hx').1, off_mem hn (h.more x hx') (hI.kids x hx').2⟩
  · rw [hs]
    exact off_mem hn hm hI.root
/-- A sum of which one part alone counts. -/
theorem sum_one (g : Nat → Nat) (p : Nat) : ∀ l : List Nat, (∀ x ∈ l, x ≠ p → g x = 0) → (l.map g).sum = g p * l.count p
  | [], _ => by simp
  | x :: l, h => by
    have ih := sum_one g p l fun y hy => h y (List.mem_cons_of_mem _ hy)
    rw [List.map_cons, List.sum_cons, ih]
    by_cases hx : x = p
    · subst hx
      rw [List.count_cons_self, Nat.mul_add, Nat.mul_one]; omega
    · rw [h x (by simp) hx, List.count_cons_of_ne hx]; omega
theorem within_off (l : List Nat) (i me : Nat) (h : ∀ x ∈ l, x ≠ me) : offL me (withinL l i me) = l := by
  unfold withinL
  have e : ∀ k : List Nat, (∀ x ∈ k, x ≠ me) → offL me k = k := fun k hk => List.filter_eq_self.2 fun x hx => by simpa using hk x hx
  show List.filter _ _ = _
  rw [List.filter_append, List.filter_cons]
  have e1 := e (l.take i) fun x hx => h x (List.mem_of_mem_take hx)
  have e2 := e (l.drop i) fun x hx => h x (List.mem_of_mem_drop hx)
  simp only [bne_self_eq_false, Bool.false_eq_true, if_false]
  have e3 : offL me (l.take i) ++ offL me (l.drop i) = l := by rw [e1, e2, List.take_append_drop]
  exact e3
theorem within_count (l : List Nat) (i me : Nat) (h : ∀ x ∈ l, x ≠ me) : (withinL l i me).count me = 1 := by
  have e : ∀ k : List Nat, (∀ x ∈ k, x ≠ me) → k.count me = 0 := fun k hk => List.count_eq_zero.2 fun hx => hk me hx rfl
  unfold withinL
  rw [List.count_append, List.count_cons_self, e (l.take i) fun x hx => h x (List.mem_of_mem_take hx), e (l.drop i) fun x hx => h x (List.mem_of_mem_drop hx)]
end Go.Proofs.YtdnhoicfolkbnaaGreat

/- The document's tree of units (quireref9), mathematics alone: Insert keeps what is so of it. -/
namespace Go.Proofs.YtdnhoicfolkbnaaGreat
set_option linter.unusedVariables false
set_option linter.unusedSimpArgs false

theorem nd_snoc (l : List Nd) (n : Nd) (m o : List Nat) (x : Nat) : (RS.mk (l ++ [n]) m o).nd x = if x = l.length then n else (RS.mk l m o).nd x := by
  unfold RS.nd
  show ((l ++ [n])[x]?).getD .zero = if x = l.length then n else (l[x]?).getD .zero
  by_cases h : x = l.length
  · rw [if_pos h, h]; simp
  · rw [if_neg h]
    rcases Nat.lt_or_ge x l.length with h1 | h1
    · rw [List.getElem?_append_left h1]
    · rw [List.getElem?_eq_none (by simp; omega), List.getElem?_eq_none h1]
theorem nd_modify (l : List Nd) (i : Nat) (f : Nd → Nd) (m o : List Nat) (x : Nat) (hi : i < l.length) : (RS.mk (l.modify i f) m o).nd x = if x = i then f ((RS.mk l m o).nd x) else (RS.mk l m o).nd x := by
  unfold RS.nd
  show ((l.modify i f)[x]?).getD .zero = if x = i then f ((l[x]?).getD .zero) else (l[x]?).getD .zero
  rw [List.getElem?_modify]
  by_cases h : x = i
  · subst h
    rw [if_pos rfl, List.getElem?_eq_getElem hi]; simp
  · rw [if_neg h]
    have h' : ¬ i = x := fun e => h e.symm
    cases l[x]? <;> simp [h']
theorem modify_same : ∀ (l : List Nd) (i : Nat) (f g : Nd → Nd), (∀ n, l[i]? = some n → f n = g n) → l.modify i f = l.modify i g
  | [], i, f, g, h => by cases i <;> rfl
  | x :: l, 0, f, g, h => by simp [h x rfl]
  | x :: l, i + 1, f, g, h => by
    rw [List.modify_succ_cons, List.modify_succ_cons, modify_same l i f g fun n hn => h n (by simpa using hn)]
theorem with1_nd (r : RS) (u : Un) (x : Nat) : (r.with1 u).nd x = if x = r.l.length then r.node u else r.nd x := nd_snoc r.l (r.node u) r.more r.order x
/-- One list of a node's children with one more. -/
theorem RInv.put {r : RS} (hI : RInv r) (u : Un) (p : Nat) (hp : p < r.l.length) (lf mr : List Nat) (hor : (offL r.l.length lf = (r.nd p).lefts ∧ lf.count r.l.length = 1 ∧ mr = (r.nd p).more) ∨ (offL r.l.length mr = (r.nd p).more ∧ mr.count r.l.length = 1 ∧ lf = (r.nd p).lefts))
    (hpar : -1 ≤ (r.node u).par ∧ (r.node u).par < (r.l.length : Int)) (s : RS) (hs : s.l = (r.with1 u).l.modify p fun n => ⟨n.u, n.par, n.left, lf, mr⟩) (hm : s.more = r.more) (ho : s.order = s.walk s.l.length s.more) : RInv s ∧ offL r.l.length s.order = r.order := by
  have hlen : s.l.length = r.l.length + 1 := by rw [hs, List.length_modify]; simp [RS.with1]
  have hnd : ∀ x, s.nd x = if x = p then ⟨(r.nd p).u, (r.nd p).par, (r.nd p).left, lf, mr⟩ else if x = r.l.length then r.node u else r.nd x := fun x => by
    have e1 : s.nd x = (RS.mk ((r.with1 u).l.modify p fun n => ⟨n.u, n.par, n.left, lf, mr⟩) r.more r.order).nd x := by unfold RS.nd; rw [hs]
    rw [e1, nd_modify _ _ _ _ _ _ (by simp [RS.with1]; omega)]
    by_cases h : x = p
    · subst h
      rw [if_pos rfl, if_pos rfl]
      have e2 : (RS.mk (r.with1 u).l r.more r.order).nd x = r.nd x := by
        have := with1_nd r u x
        rw [if_neg (by omega)] at this
        exact this
      rw [e2]
    · rw [if_neg h, if_neg h]
      exact with1_nd r u x
  have self : ∀ k : List Nat, (∀ y ∈ k, y < r.l.length) → offL r.l.length k = k ∧ k.count r.l.length = 0 := fun k hk =>
    ⟨List.filter_eq_self.2 fun y hy => by have := hk y hy; simp; omega, List.count_eq_zero.2 fun h => absurd (hk _ h) (by omega)⟩
  have hne : r.l.length ≠ p := by omega
  have kp := hI.kids p hp
  have hmore : More r s r.l.length := by
    refine ⟨rfl, ?_, fun x hx => ?_, fun x hx => ?_⟩
    · rw [hnd, if_neg hne, if_pos rfl]; exact ⟨rfl, rfl⟩
    · rw [hnd]
      by_cases h : x = p
      · subst h
        rw [if_pos rfl]
        rcases hor with h | h
        · exact h.1
        · show offL _ lf = _
          rw [h.2.2]; exact (self _ kp.1).1
      · rw [if_neg h, if_neg (by omega)]; exact (self _ (hI.kids x hx).1).1
    · rw [hnd]
      by_cases h : x = p
      · subst h
        rw [if_pos rfl]
        rcases hor with h | h
        · show offL _ mr = _
          rw [h.2.2]; exact (self _ kp.2).1
        · exact h.1
      · rw [if_neg h, if_neg (by omega)]; exact (self _ (hI.kids x hx).2).1
  have hcp : cntC s r.l.length p = 1 := by
    unfold cntC
    rw [hnd, if_pos rfl]
    show lf.count _ + mr.count _ = 1
    rcases hor with h | h
    · rw [h.2.1, h.2.2, (self _ kp.2).2]
    · rw [h.2.1, h.2.2, (self _ kp.1).2]
  have hc0 : ∀ x ∈ r.order, x ≠ p → cntC s r.l.length x = 0 := fun x hx h => by
    have hx' := hI.lt x hx
    unfold cntC
    rw [hnd, if_neg h, if_neg (by omega), (self _ (hI.kids x hx').1).2, (self _ (hI.kids x hx').2).2]
  refine hI.laid hmore hlen (by rw [hm]; exact (self _ hI.root).1) ho ?_ ?_
  · rw [hm, (self _ hI.root).2, sum_one _ p r.order hc0, hcp, hI.one p hp]
  · intro x hx
    rw [hnd]
    by_cases h : x = p
    · subst h; rw [if_pos rfl]; exact hI.up x hp
    · rw [if_neg h]
      by_cases h2 : x = r.l.length
      · subst h2; rw [if_pos rfl]; exact hpar
      · rw [if_neg h2]; exact hI.up x (by omega)
/-- The root's right children with one more. -/
theorem RInv.putRoot {r : RS} (hI : RInv r) (u : Un) (mr : List Nat) (h1 : offL r.l.length mr = r.more) (h2 : mr.count r.l.length = 1)
    (hpar : -1 ≤ (r.node u).par ∧ (r.node u).par < (r.l.length : Int)) (s : RS) (hs : s.l = (r.with1 u).l) (hm : s.more = mr) (ho : s.order = s.walk s.l.length s.more) : RInv s ∧ offL r.l.length s.order = r.order := by
  have hlen : s.l.length = r.l.length + 1 := by rw [hs]; simp [RS.with1]
  have hnd : ∀ x, s.nd x = if x = r.l.length then r.node u else r.nd x := fun x => by
    have e1 : s.nd x = (r.with1 u).nd x := by unfold RS.nd; rw [hs]
    rw [e1]; exact with1_nd r u x
  have self : ∀ k : List Nat, (∀ y ∈ k, y < r.l.length) → offL r.l.length k = k ∧ k.count r.l.length = 0 := fun k hk =>
    ⟨List.filter_eq_self.2 fun y hy => by have := hk y hy; simp; omega, List.count_eq_zero.2 fun h => absurd (hk _ h) (by omega)⟩
  have hmore : More r s r.l.length := by
    refine ⟨rfl, ?_, fun x hx => ?_, fun x hx => ?_⟩
    · rw [hnd, if_pos rfl]; exact ⟨rfl, rfl⟩
    · rw [hnd, if_neg (by omega)]; exact (self _ (hI.kids x hx).1).1
    · rw [hnd, if_neg (by omega)]; exact (self _ (hI.kids x hx).2).1
  have hc0 : ∀ x ∈ r.order, x ≠ r.l.length → cntC s r.l.length x = 0 := fun x hx h => by
    have hx' := hI.lt x hx
    unfold cntC
    rw [hnd, if_neg h, (self _ (hI.kids x hx').1).2, (self _ (hI.kids x hx').2).2]
  refine hI.laid hmore hlen (by rw [hm]; exact h1) ho ?_ ?_
  · rw [hm, h2, sum_one _ r.l.length r.order hc0, (self _ hI.lt).2, Nat.mul_zero]
  · intro x hx
    rw [hnd]
    by_cases h : x = r.l.length
    · subst h; rw [if_pos rfl]; exact hpar
    · rw [if_neg h]; exact hI.up x (by omega)
/-- Insert keeps what is so; the order is as it was, with the new one. -/
theorem RInv.laidI {r : RS} (hI : RInv r) (u : Un) : RInv (r.laid u) ∧ offL r.l.length (r.laid u).order = r.order := by
  have hl := RS.find_lt (r := r) u.lc u.lk
  have hr := RS.find_lt (r := r) u.rc u.rk
  have hpar : -1 ≤ (r.node u).par ∧ (r.node u).par < (r.l.length : Int) := by
    unfold RS.node
    show -1 ≤ (if r.isL u then _ else _) ∧ (if r.isL u then _ else _) < _
    split
    · exact hr
    · exact hl
  have ne : ∀ k : List Nat, (∀ y ∈ k, y < r.l.length) → ∀ y ∈ k, y ≠ r.l.length := fun k hk y hy h => absurd (hk y hy) (by omega)
  have hww : (r.laid u).l = (r.with2 u).l ∧ (r.laid u).more = (r.with2 u).more ∧ (r.laid u).order = (r.laid u).walk (r.laid u).l.length (r.laid u).more := ⟨rfl, rfl, by
    have e : ∀ (a b : RS), a.l = b.l → ∀ f k, a.walk f k = b.walk f k := by
      intro a b hab f
      have hn : ∀ x, a.nd x = b.nd x := fun x => by unfold RS.nd; rw [hab]
      induction f with
      | zero => intro k; rfl
      | succ f ih => intro k; simp only [RS.walk, ih, hn]
    exact e (r.with2 u) (r.laid u) rfl _ _⟩
  by_cases hL : r.isL u = true
  · have h0 : 0 ≤ r.find u.rc u.rk := by
      unfold RS.isL at hL
      simp only [Bool.and_eq_true, decide_eq_true_eq] at hL
      exact hL.1
    have hp : (r.find u.rc u.rk).toNat < r.l.length := by omega
    have hk := hI.kids _ hp
    have e1 : (r.with1 u).nd (r.find u.rc u.rk).toNat = r.nd (r.find u.rc u.rk).toNat := by rw [with1_nd, if_neg (by omega)]
    have e2 : (r.with2 u).l = (r.with1 u).l.modify (r.find u.rc u.rk).toNat fun n => ⟨n.u, n.par, n.left, withinL n.lefts ((r.with1 u).leftsL n.lefts u.c u.k) r.l.length, n.more⟩ := by unfold RS.with2; simp only [hL, if_true]
    have e3 : (r.with2 u).more = r.more := by unfold RS.with2; simp only [hL, if_true]; rfl
    refine hI.put u _ hp (withinL (r.nd (r.find u.rc u.rk).toNat).lefts ((r.with1 u).leftsL (r.nd (r.find u.rc u.rk).toNat).lefts u.c u.k) r.l.length) (r.nd (r.find u.rc u.rk).toNat).more (.inl ⟨within_off _ _ _ (ne _ hk.1), within_count _ _ _ (ne _ hk.1), rfl⟩) hpar _ ?_ (by rw [hww.2.1, e3]) hww.2.2
    rw [hww.1, e2]
    refine modify_same _ _ _ _ fun n hn => ?_
    have : n = r.nd (r.find u.rc u.rk).toNat := by
      rw [← e1]; unfold RS.nd; rw [hn]; rfl
    rw [this]
  · by_cases h0 : 0 ≤ r.find u.lc u.lk
    · have hp : (r.find u.lc u.lk).toNat < r.l.length := by omega
      have hk := hI.kids _ hp
      have e1 : (r.with1 u).nd (r.find u.lc u.lk).toNat = r.nd (r.find u.lc u.lk).toNat := by rw [with1_nd, if_neg (by omega)]
      have e2 : (r.with2 u).l = (r.with1 u).l.modify (r.find u.lc u.lk).toNat fun n => ⟨n.u, n.par, n.left, n.lefts, (r.with1 u).amongL n.more r.l.length⟩ := by unfold RS.with2; simp only [hL, h0, if_true, Bool.false_eq_true, if_false]
      have e3 : (r.with2 u).more = r.more := by unfold RS.with2; simp only [hL, h0, if_true, Bool.false_eq_true, if_false]; rfl
      refine hI.put u _ hp (r.nd (r.find u.lc u.lk).toNat).lefts ((r.with1 u).amongL (r.nd (r.find u.lc u.lk).toNat).more r.l.length) (.inr ⟨within_off _ _ _ (ne _ hk.2), within_count _ _ _ (ne _ hk.2), rfl⟩) hpar _ ?_ (by rw [hww.2.1, e3]) hww.2.2
      rw [hww.1, e2]
      refine modify_same _ _ _ _ fun n hn => ?_
      have : n = r.nd (r.find u.lc u.lk).toNat := by
        rw [← e1]; unfold RS.nd; rw [hn]; rfl
      rw [this]
    · have e2 : (r.with2 u).l = (r.with1 u).l := by unfold RS.with2; simp only [hL, h0, if_true, Bool.false_eq_true, if_false]
      have e3 : (r.with2 u).more = (r.with1 u).amongL r.more r.l.length := by unfold RS.with2; simp only [hL, h0, if_true, Bool.false_eq_true, if_false]; rfl
      exact hI.putRoot u _ (within_off _ _ _ (ne _ hI.root)) (within_count _ _ _ (ne _ hI.root)) hpar _ (by rw [hww.1, e2]) (by rw [hww.2.1, e3]; rfl) hww.2.2
theorem RInv.insert {r : RS} (hI : RInv r) (u : Un) : RInv (r.insert u) := by
  unfold RS.insert
  split
  · exact (hI.laidI u).1
  · exact hI
theorem RS.insert_len (r : RS) (u : Un) : (r.insert u).l.length ≤ r.l.length + 1 := by
  unfold RS.insert
  split
  · show (r.with2 u).l.length ≤ _
    unfold RS.with2
    simp only
    split
    · rw [List.length_modify]; simp [RS.with1]
    · split
      · rw [List.length_modify]; simp [RS.with1]
      · simp [RS.with1]
  · omega
end Go.Proofs.YtdnhoicfolkbnaaGreat
