/- Package seq's row: next. -/
import Derived.Test.YtnilikomoapcaaaGreatSeqR9
import Derived.Test.YtnilikomoapcaaaGreatPart3
import Derived.Maps.AppendAt
import Derived.Laws.OwnMore
import Derived.Shelf.GgSortFunc.RowK
import Derived.Test.YtnilikomoapcaaaGreatTreS
namespace Go.Proofs.YtnilikomoapcaaaGreat
open Go.RowKit
set_option linter.unusedVariables false
set_option linter.unusedSimpArgs false
set_option maxRecDepth 100000

/-- The first one behind, on the way up. -/
def nextC : List Fr → Nat
  | [] => 0
  | .L u _ :: _ => u
  | .R _ _ :: c => nextC c
theorem nextC_head : ∀ c : List Fr, nextC c = (cr c).headD 0
  | [] => rfl
  | .L u r :: c => rfl
  | .R l u :: c => nextC_head c
theorem first_head : ∀ {t : Tr}, t ≠ .nil → ∃ l, t.flat = t.first :: l
  | .nil, h => absurd rfl h
  | .node .nil i r, _ => ⟨r.flat, rfl⟩
  | .node (.node a j b) i r, _ => by
    obtain ⟨l, hl⟩ := first_head (t := .node a j b) (by simp)
    exact ⟨l ++ i :: r.flat, by show (Tr.node a j b).flat ++ i :: r.flat = _; rw [hl]; rfl⟩
/-- Where next is, on its way up. -/
def InvN (A : Nat → Th) (n res x : Nat) (c : List Fr) : Prop :=
  (x = 0 ∧ c = [] ∧ res = 0) ∨ (x ≠ 0 ∧ x < n ∧ (A x).up = par c ∧ (∃ s, RepC A c x s) ∧ FitC c n ∧ x ∉ cl c ++ cr c ∧ (cl c ++ cr c).Nodup ∧ (A 0).d1 = topC c x ∧ nextC c = res)
theorem next_step {A : Nat → Th} {n res x : Nat} {c : List Fr} (h : InvN A n res x c) (hx : x ≠ 0) (hn : 0 < n) :
    x < n ∧ (A x).up < n ∧ ((sideA A x = 1 ∧ ∃ c', InvN A n res (A x).up c' ∧ (if (A x).up = 0 then 0 else c'.length + 1) = c.length) ∨ (sideA A x = 0 ∧ (A x).up = res)) := by
  rcases h with ⟨h, _⟩ | ⟨_, hxn, hup, ⟨s, hC⟩, hF, hxc, hN, htop, hres⟩
  · exact absurd h hx
  refine ⟨hxn, by rw [hup]; exact hF.par hn, ?_⟩
  cases c with
  | nil =>
    have e0 : (A x).up = 0 := hup
    have hs : sideA A x = 1 := by unfold sideA; rw [e0]; exact if_pos htop
    rw [e0]
    exact .inl ⟨hs, [], .inl ⟨rfl, rfl, hres.symm⟩, by simp⟩
  | cons f c =>
    have hpm := hF _ (par_mem (c := f :: c) (by simp))
    cases f with
    | L u r =>
      have eu : (A x).up = u := hup
      refine .inr ⟨?_, by rw [eu]; exact hres⟩
      unfold sideA
      rw [eu, hC.2.2.1, if_neg (root_ne (fun h => hxc (by simp [cl, cr, h])) hx)]
    | R l u =>
      have eu : (A x).up = u := hup
      have hu0 : u ≠ 0 := hpm.2
      obtain ⟨c1, c2, c3, c4, c5, c6⟩ := hC
      have hs : sideA A x = 1 := by unfold sideA; rw [eu]; exact if_pos c3
      rw [eu]
      have hn' : (cl c ++ (l.flat ++ [u]) ++ cr c).Nodup := by simpa [cl, cr] using hN
      have hnd := List.nodup_append.1 hn'
      have hnd1 := List.nodup_append.1 hnd.1
      refine .inl ⟨hs, c, .inr ⟨hu0, hpm.1, c1, ⟨_, c6⟩, hF.tail, fun h => ?_, List.nodup_append.2 ⟨hnd1.1, hnd.2.1, fun a ha b hb => hnd.2.2 a (by simp [ha]) b hb⟩, htop, hres⟩, by rw [if_neg hu0]; rfl⟩
      rcases List.mem_append.1 h with h | h
      · exact hnd1.2.2 u h u (by simp) rfl
      · exact hnd.2.2 u (by simp) u h rfl
end Go.Proofs.YtnilikomoapcaaaGreat

/- Trees whose nodes are things of an array: a new leaf. -/
namespace Go.Proofs.YtnilikomoapcaaaGreat
set_option linter.unusedVariables false
set_option linter.unusedSimpArgs false

/-- A thing that isn't in the tree, and has nothing yet. -/
structure Fresh (A : Nat → Th) (n : Nat) (l : List Nat) : Prop where
  n0 : n ≠ 0
  nl : n ∉ l
  th : A n = ⟨0, 0, 0, 0, 0⟩
theorem hang_facts {A : Nat → Th} {u s n : Nat} {l : List Nat} (hF : Fresh A n l) (hu : u ≠ n) : hangA A u s n u = (A u).put (1 + s) (n : Int) ∧ hangA A u s n n = ⟨u, 0, 0, 0, 0⟩ ∧ ∀ j, j ≠ u → j ≠ n → hangA A u s n j = A j := by
  refine ⟨hangA_up hu, ?_, fun j h1 h2 => hangA_ne h1 (fun _ => h2)⟩
  rw [hangA_it hu hF.n0, hF.th]
  simp [Th.put]
/-- On the back of one that has nothing there. -/
theorem leaf_back {A : Nat → Th} {c : List Fr} {a : Tr} {u n : Nat} (H : Rep A 0 (plug c (.node a u .nil))) (N : (plug c (.node a u .nil)).flat.Nodup) (hF : Fresh A n (plug c (.node a u .nil)).flat) :
    Rep (hangA A u 1 n) 0 (plug (.R a u :: c) (.node .nil n .nil)) := by
  rw [flat_plug] at N
  have hnl := hF.nl
  rw [flat_plug] at hnl
  have n1 : (cl c ++ (a.flat ++ u :: []) ++ cr c).Nodup := N
  have hnd := List.nodup_append.1 n1
  have hnd1 := List.nodup_append.1 hnd.1
  have hnd2 := List.nodup_append.1 hnd1.2.1
  have un : u ≠ n := fun e => hnl (by rw [← e]; simp [Tr.flat])
  obtain ⟨f1, f2, f3⟩ := hang_facts (s := 1) hF un
  obtain ⟨hC, i1, i2, i3, i4, i5, i6⟩ := (rep_plug A c (.node a u .nil)).1 H
  have ua : u ∉ a.flat := fun h => hnd2.2.2 u h u (by simp) rfl
  have uc : u ∉ cl c ++ cr c := fun h => by
    rcases List.mem_append.1 h with h | h
    · exact hnd1.2.2 u h u (by simp) rfl
    · exact hnd.2.2 u (by simp) u h rfl
  have ga : ∀ x ∈ a.flat, A x = hangA A u 1 n x := fun x hx => (f3 x (fun e => ua (e ▸ hx)) (fun e => hnl (by rw [← e]; simp [Tr.flat, hx]))).symm
  have sa := Tr.sum_congr (A := A) (B := hangA A u 1 n) (t := a) fun x hx => by rw [ga x hx]
  have fu : hangA A u 1 n u = { A u with d1 := n } := by rw [f1]; simp [Th.put]
  refine (rep_plug _ (.R a u :: c) _).2 ⟨⟨by rw [fu]; exact i1, by rw [fu]; exact i2, by rw [fu]; rfl, ?_, Rep.congr ga i5, ?_⟩, ⟨by rw [f2]; rfl, by rw [f2]; rfl, by rw [f2]; rfl, by rw [f2]; rfl, trivial, trivial⟩⟩
  · rw [fu, ← sa]
    simp only [Tr.sum, f2]
    have := i4
    simp only [Tr.sum] at this
    omega
  · have e : a.sum (hangA A u 1 n) + (hangA A u 1 n u).long + (Tr.node .nil n .nil).sum (hangA A u 1 n) = (Tr.node a u .nil).sum A := by
      rw [fu, ← sa]
      simp only [Tr.sum, f2]
      omega
    rw [e]
    exact RepC.congr (fun x hx => (f3 x (fun e => uc (e ▸ hx)) (fun e => hnl (by rw [← e]; rcases List.mem_append.1 hx with hx | hx <;> simp [hx]))).symm) hC
/-- On the front of one that has nothing there. -/
theorem leaf_front {A : Nat → Th} {c : List Fr} {a : Tr} {u n : Nat} (H : Rep A 0 (plug c (.node .nil u a))) (N : (plug c (.node .nil u a)).flat.Nodup) (hF : Fresh A n (plug c (.node .nil u a)).flat) :
    Rep (hangA A u 0 n) 0 (plug (.L u a :: c) (.node .nil n .nil)) := by
  rw [flat_plug] at N
  have hnl := hF.nl
  rw [flat_plug] at hnl
  have n1 : (cl c ++ (u :: a.flat) ++ cr c).Nodup := N
  have hnd := List.nodup_append.1 n1
  have hnd1 := List.nodup_append.1 hnd.1
  have hnd2 := List.nodup_cons.1 hnd1.2.1
  have un : u ≠ n := fun e => hnl (by rw [← e]; simp [Tr.flat])
  obtain ⟨f1, f2, f3⟩ := hang_facts (s := 0) hF un
  obtain ⟨hC, i1, i2, i3, i4, i5, i6⟩ := (rep_plug A c (.node .nil u a)).1 H
  have ua : u ∉ a.flat := hnd2.1
  have uc : u ∉ cl c ++ cr c := fun h => by
    rcases List.mem_append.1 h with h | h
    · exact hnd1.2.2 u h u (by simp) rfl
    · exact hnd.2.2 u (by simp) u h rfl
  have ga : ∀ x ∈ a.flat, A x = hangA A u 0 n x := fun x hx => (f3 x (fun e => ua (e ▸ hx)) (fun e => hnl (by rw [← e]; simp [Tr.flat, hx]))).symm
  have sa := Tr.sum_congr (A := A) (B := hangA A u 0 n) (t := a) fun x hx => by rw [ga x hx]
  have fu : hangA A u 0 n u = { A u with d0 := n } := by rw [f1]; simp [Th.put]
  refine (rep_plug _ (.L u a :: c) _).2 ⟨⟨by rw [fu]; exact i1, by rw [fu]; rfl, by rw [fu]; exact i3, ?_, Rep.congr ga i6, ?_⟩, ⟨by rw [f2]; rfl, by rw [f2]; rfl, by rw [f2]; rfl, by rw [f2]; rfl, trivial, trivial⟩⟩
  · rw [fu, ← sa]
    simp only [Tr.sum, f2]
    have := i4
    simp only [Tr.sum] at this
    omega
  · have e : (Tr.node .nil n .nil).sum (hangA A u 0 n) + (hangA A u 0 n u).long + a.sum (hangA A u 0 n) = (Tr.node .nil u a).sum A := by
      rw [fu, ← sa]
      simp only [Tr.sum, f2]
      omega
    rw [e]
    exact RepC.congr (fun x hx => (f3 x (fun e => uc (e ▸ hx)) (fun e => hnl (by rw [← e]; rcases List.mem_append.1 hx with hx | hx <;> simp [hx]))).symm) hC
/-- As they stand: the new one right behind u, or right ahead. -/
theorem flat_leaf_back (c : List Fr) (a : Tr) (u n : Nat) : (plug (.R a u :: c) (.node .nil n .nil)).flat = cl c ++ (a.flat ++ [u]) ++ n :: cr c ∧ (plug c (.node a u .nil)).flat = cl c ++ (a.flat ++ [u]) ++ cr c := by
  constructor
  · rw [flat_plug]; simp [cl, cr, Tr.flat]
  · rw [flat_plug]; simp [Tr.flat]
theorem flat_leaf_front (c : List Fr) (a : Tr) (u n : Nat) : (plug (.L u a :: c) (.node .nil n .nil)).flat = cl c ++ n :: (u :: a.flat ++ cr c) ∧ (plug c (.node .nil u a)).flat = cl c ++ (u :: a.flat ++ cr c) := by
  constructor
  · rw [flat_plug]; simp [cl, cr, Tr.flat]
  · rw [flat_plug]; simp [Tr.flat]
/-- Lifts change nothing of how they stand. -/
theorem flat_lift (c : List Fr) (a b r : Tr) (i u : Nat) : (plug c (.node a i (.node b u r))).flat = (plug (.L u r :: c) (.node a i b)).flat ∧ (plug c (.node (.node r u a) i b)).flat = (plug (.R r u :: c) (.node a i b)).flat := by
  constructor
  · rw [flat_plug, flat_plug]; simp [cl, cr, Tr.flat]
  · rw [flat_plug, flat_plug]; simp [cl, cr, Tr.flat]
end Go.Proofs.YtnilikomoapcaaaGreat

/- Package seq's row: a thing more in the slice. -/
namespace Go.Proofs.YtnilikomoapcaaaGreat
open Go.RowKit Go.Maps
set_option linter.unusedVariables false
set_option linter.unusedSimpArgs false
set_option maxRecDepth 100000

theorem cellsH_one (l : List Th) : ∀ u ∈ cellsH l, u.oneCell' = true := by
  intro u hu
  obtain ⟨f, _, hf⟩ := List.mem_flatMap.1 hu
  simp only [cellH, List.mem_cons, List.not_mem_nil, or_false] at hf
  rcases hf with rfl | rfl | rfl | rfl | rfl <;> rfl
theorem infoH : (Tryz.prog.info? 111).map (fun i => (i.zero, i.size, i.bytes)) = some (some (.agg #[iV 0, iV 0, iV 0, iV 0, iV 0]), 5, 40) := by kernel_rfl
abbrev zeroT : Th := ⟨0, 0, 0, 0, 0⟩
abbrev zeroTO : Obj := .cells #[iV 0, iV 0, iV 0, iV 0, iV 0] 111
theorem addr_addH (g o j : Nat) : (⟨g, o, none⟩ : Addr).add j = ⟨g, o + j, none⟩ := by
  unfold Addr.add
  split <;> simp_all
/-- What else stands behind an append that lays its slice into cell k of block b. -/
structure AddF (w w' : World) (b k g : Nat) : Prop where
  os : w'.os = w.os
  tape : w'.tape = w.tape
  output : w'.output = w.output
  size : w.heap.size ≤ w'.heap.size
  block : ∀ x, x < w.heap.size → x ≠ g → x ≠ b → w'.heap[x]? = w.heap[x]?
  cells : ∀ j, j ≠ k → w'.cell? ⟨b, j, none⟩ = w.cell? ⟨b, j, none⟩
  blk : ∀ c t fr, w.heap[b]? = some (.cells c t fr) → ∃ v, w'.heap[b]? = some (.cells (c.setIfInBounds k v) t fr)
theorem append_thing {w : World} {b k g cap : Nat} {L : List Th} (h : Things w b k g cap L) (hl : L.length ≤ 1073741824) :
    ∃ g' cap' w', (Builtin.append_ #[69, 69] 69 #[.slice (some ⟨g, 0, none⟩) L.length cap, .slice (some ⟨w.heap.size, 0, none⟩) 1 1]).run Tryz.prog (w.alloc zeroTO) = .ok (.slice (some ⟨g', 0, none⟩) (L.length + 1) cap') w' ∧
      Things (w'.setCell ⟨b, k, none⟩ (.slice (some ⟨g', 0, none⟩) (L.length + 1) cap')) b k g' cap' (L ++ [zeroT]) ∧ AddF w (w'.setCell ⟨b, k, none⟩ (.slice (some ⟨g', 0, none⟩) (L.length + 1) cap')) b k g ∧ (g' = g ∨ w.heap.size ≤ g') ∧ (∃ v, w'.cell? ⟨b, k, none⟩ = some v) ∧ w'.heap[b]? = w.heap[b]? := by
  obtain ⟨i0, hi, hz0, hz1, hz2⟩ := info_parts infoH
  obtain ⟨cur, c1, c2, c3, c4, c5⟩ := h.row
  have hg := h.lt
  have hb : b < w.heap.size := World.block_lt_of_cell? _ _ h.cell
  have hgA : (w.alloc zeroTO).heap[g]? = some (.cells cur 111 (0, 0)) := by rw [Below.heap_alloc _ _ _ hg]; exact c1
  have hown : (w.alloc zeroTO).ownsRow 0 111 5 (.slice (some ⟨g, 0, none⟩) L.length cap) L.length (cellsH L) := ⟨cellsH_len L, .inr ⟨g, cap, cur, rfl, Nat.zero_le _, hgA, c3, by unfold maxLen; omega, c2, c5⟩⟩
  have hcl : ∀ j u, (cellsH [zeroT])[j]? = some u → (w.alloc zeroTO).cell? ((⟨w.heap.size, 0, none⟩ : Addr).add j) = some u := by
    intro j u hu
    rw [addr_addH, Nat.zero_add, cell_of_block (heap_alloc_new w zeroTO)]
    have : (cellsH [zeroT])[j]? = (#[iV 0, iV 0, iV 0, iV 0, iV 0] : Array Value)[j]? := by simp [cellsH, cellH]
    rw [← this]; exact hu
  obtain ⟨v', w', hrun, hown', hgr, _, hat⟩ := run_append_own_at (w.alloc zeroTO) 0 69 69 111 i0 _ 5 40 Tryz.underlying69 hi hz0 hz1 hz2 rfl (by decide) (.slice (some ⟨g, 0, none⟩) L.length cap) L.length (cellsH L) hown ⟨w.heap.size, 0, none⟩ 1 1 (cellsH [zeroT]) (cellsH_len [zeroT]) hcl (cellsH_one [zeroT]) (by unfold maxLen; omega) (by omega) (Nat.zero_le _)
  rcases hown'.2 with ⟨_, h9⟩ | ⟨g', cap', cur', rfl, _, hg', d1, d2, d3, d4⟩
  · omega
  have hat' : g' = g ∨ g' = (w.alloc zeroTO).heap.size := by simpa [Value.ownBlock] using hat
  have hsz : (w.alloc zeroTO).heap.size = w.heap.size + 1 := by simp
  have hbg' : b ≠ g' := by
    rcases hat' with e | e
    · rw [e]; exact h.ne
    · omega
  have hold : ∀ x, x < w.heap.size → x ≠ g → w'.heap[x]? = w.heap[x]? := fun x hx hxg => by
    rw [hgr.block x (by omega) (by simp [Value.ownBlock]; omega)]
    exact Below.heap_alloc _ _ _ hx
  have hbo : w'.heap[b]? = w.heap[b]? := hold b hb h.ne
  have hcb : w'.cell? ⟨b, k, none⟩ = w.cell? ⟨b, k, none⟩ := World.cell?_of_block hbo
  refine ⟨g', cap', w', hrun, ⟨?_, hbg', cur', ?_, d3, by simpa using d1, by unfold maxLen at d2; omega, ?_⟩, ⟨?_, ?_, ?_, ?_, ?_, ?_, ?_⟩, ?_, ⟨_, by rw [hcb]; exact h.cell⟩, hbo⟩
  · rw [List.length_append]
    exact World.cell?_setCell_same' w' ⟨b, k, none⟩ _ (by rw [hcb, h.cell]; rfl)
  · rw [Below.heap_setCell _ _ _ _ (Ne.symm hbg')]; exact hg'
  · rw [List.length_append, cellsH_append]; exact d4
  · exact hgr.os
  · exact hgr.tape
  · exact hgr.output
  · have := hgr.size
    simp only [World.setCell, World.alloc] at this ⊢
    simp at this ⊢
    omega
  · intro x hx hxg hxb
    rw [Below.heap_setCell _ _ _ _ hxb]
    exact hold x hx hxg
  · intro j hj
    have hne : (⟨b, k, none⟩ : Addr) ≠ ⟨b, j, none⟩ := fun e => by simp only [Addr.mk.injEq] at e; exact hj e.2.1.symm
    exact (World.cell?_setCell_other w' _ _ _ hne).trans (World.cell?_of_block hbo)
  · intro c t fr hb'
    exact ⟨_, heap_setCell_same _ _ _ _ (hbo.trans hb')⟩
  · rcases hat' with e | e
    · exact .inl e
    · exact .inr (by omega)
end Go.Proofs.YtnilikomoapcaaaGreat

/- Trees whose nodes are things of an array: what a lift's counts find. -/
namespace Go.Proofs.YtnilikomoapcaaaGreat
set_option linter.unusedVariables false
set_option linter.unusedSimpArgs false

/-- What is so when the counts come: C behind the hangs. -/
structure Mid (A C : Nat → Th) (i u : Nat) (Ci Cu : Th) : Prop where
  ci : C i = Ci
  cu : C u = Cu
  whole : ∀ j, j ≠ i → j ≠ u → (C j).whole = (A j).whole
theorem mid_front {A : Nat → Th} {i u g da db r s : Nat} (ai : (A i).up = u) (a0 : (A i).d0 = da) (a1 : (A i).d1 = db) (bu : (A u).up = g) (b1 : (A u).d1 = r) (hs : sideA A u = s) (hs2 : s < 2)
    (iu : i ≠ u) (ig : i ≠ g) (ug : u ≠ g) (i0 : i ≠ 0) (u0 : u ≠ 0) (ri : r ≠ i) (ru : r ≠ u) (rg : r = g → r = 0) (dbi : db ≠ i) (dbu : db ≠ u) (dbg : db = g → db = 0) (dbr : db = r → db = 0) (dai : da ≠ i) (dau : da ≠ u) (dag : da = g → da = 0) (dadb : da = db → da = 0) (w0 : (A 0).whole = 0) :
    Mid A (hangA (hangA (hangA A g s i) i 1 u) u 0 db) i u { A i with up := g, d1 := u } { A u with up := i, d0 := db } := by
  -- the worlds between
  have p1i : hangA A g s i i = (A i).put 0 (g : Int) := hangA_it (Ne.symm ig) i0
  have p1u : hangA A g s i u = A u := hangA_ne ug (fun _ => Ne.symm iu)
  have p1g : hangA A g s i g = (A g).put (1 + s) (i : Int) := hangA_up (Ne.symm ig)
  have p1o : ∀ j, j ≠ i → j ≠ g → hangA A g s i j = A j := fun j h1 h2 => hangA_ne h2 (fun _ => h1)
  have p2i : hangA (hangA A g s i) i 1 u i = ((A i).put 0 (g : Int)).put 2 (u : Int) := by rw [hangA_up iu, p1i]
  have p2u : hangA (hangA A g s i) i 1 u u = (A u).put 0 (i : Int) := by rw [hangA_it iu u0, p1u]
  have p2o : ∀ j, j ≠ i → j ≠ u → hangA (hangA A g s i) i 1 u j = hangA A g s i j := fun j h1 h2 => hangA_ne h1 (fun _ => h2)
  have p3u : hangA (hangA (hangA A g s i) i 1 u) u 0 db u = ((A u).put 0 (i : Int)).put 1 (db : Int) := by rw [hangA_up (Ne.symm dbu), p2u]
  have p3i : hangA (hangA (hangA A g s i) i 1 u) u 0 db i = ((A i).put 0 (g : Int)).put 2 (u : Int) := by rw [hangA_ne iu (fun _ => Ne.symm dbi), p2i]
  have p3d : db ≠ 0 → hangA (hangA (hangA A g s i) i 1 u) u 0 db db = (A db).put 0 (u : Int) := fun h => by
    rw [hangA_it (Ne.symm dbu) h, p2o db dbi dbu, p1o db dbi (fun e => h (dbg e))]
  have p3o : ∀ j, j ≠ u → (db ≠ 0 → j ≠ db) → hangA (hangA (hangA A g s i) i 1 u) u 0 db j = hangA (hangA A g s i) i 1 u j := fun j h1 h2 => hangA_ne h1 h2
  generalize hC : hangA (hangA (hangA A g s i) i 1 u) u 0 db = C at *
  have cw : ∀ j, j ≠ i → j ≠ u → (C j).whole = (A j).whole := fun j h1 h2 => by
    by_cases hj : j = db
    · by_cases h0 : db = 0
      · rw [p3o j h2 (fun h => absurd h0 h), p2o j h1 h2]
        by_cases hg : j = g
        · rw [hg, p1g]
          match s, hs2 with
          | 0, _ => rfl
          | 1, _ => rfl
        · rw [p1o j h1 hg]
      · rw [hj, p3d h0]; rfl
    · rw [p3o j h2 (fun _ => hj), p2o j h1 h2]
      by_cases hg : j = g
      · rw [hg, p1g]
        match s, hs2 with
        | 0, _ => rfl
        | 1, _ => rfl
      · rw [p1o j h1 hg]
  refine ⟨?_, ?_, cw⟩
  · rw [p3i]; simp [Th.put]
  · rw [p3u]; simp [Th.put]
theorem mid_back {A : Nat → Th} {i u g da db r s : Nat} (ai : (A i).up = u) (a0 : (A i).d0 = da) (a1 : (A i).d1 = db) (bu : (A u).up = g) (b0 : (A u).d0 = r) (b1 : (A u).d1 = i) (hs : sideA A u = s) (hs2 : s < 2)
    (iu : i ≠ u) (ig : i ≠ g) (ug : u ≠ g) (i0 : i ≠ 0) (u0 : u ≠ 0) (ri : r ≠ i) (ru : r ≠ u) (rg : r = g → r = 0) (dai : da ≠ i) (dau : da ≠ u) (dag : da = g → da = 0) (dbi : db ≠ i) (dbu : db ≠ u) (w0 : (A 0).whole = 0) :
    Mid A (hangA (hangA (hangA A g s i) i 0 u) u 1 da) i u { A i with up := g, d0 := u } { A u with up := i, d1 := da } := by
  -- the worlds between
  have p1i : hangA A g s i i = (A i).put 0 (g : Int) := hangA_it (Ne.symm ig) i0
  have p1u : hangA A g s i u = A u := hangA_ne ug (fun _ => Ne.symm iu)
  have p1g : hangA A g s i g = (A g).put (1 + s) (i : Int) := hangA_up (Ne.symm ig)
  have p1o : ∀ j, j ≠ i → j ≠ g → hangA A g s i j = A j := fun j h1 h2 => hangA_ne h2 (fun _ => h1)
  have p2i : hangA (hangA A g s i) i 0 u i = ((A i).put 0 (g : Int)).put 1 (u : Int) := by rw [hangA_up iu, p1i]
  have p2u : hangA (hangA A g s i) i 0 u u = (A u).put 0 (i : Int) := by rw [hangA_it iu u0, p1u]
  have p2o : ∀ j, j ≠ i → j ≠ u → hangA (hangA A g s i) i 0 u j = hangA A g s i j := fun j h1 h2 => hangA_ne h1 (fun _ => h2)
  have p3u : hangA (hangA (hangA A g s i) i 0 u) u 1 da u = ((A u).put 0 (i : Int)).put 2 (da : Int) := by rw [hangA_up (Ne.symm dau), p2u]
  have p3i : hangA (hangA (hangA A g s i) i 0 u) u 1 da i = ((A i).put 0 (g : Int)).put 1 (u : Int) := by rw [hangA_ne iu (fun _ => Ne.symm dai), p2i]
  have p3d : da ≠ 0 → hangA (hangA (hangA A g s i) i 0 u) u 1 da da = (A da).put 0 (u : Int) := fun h => by
    rw [hangA_it (Ne.symm dau) h, p2o da dai dau, p1o da dai (fun e => h (dag e))]
  have p3o : ∀ j, j ≠ u → (da ≠ 0 → j ≠ da) → hangA (hangA (hangA A g s i) i 0 u) u 1 da j = hangA (hangA A g s i) i 0 u j := fun j h1 h2 => hangA_ne h1 h2
  generalize hC : hangA (hangA (hangA A g s i) i 0 u) u 1 da = C at *
  have cw : ∀ j, j ≠ i → j ≠ u → (C j).whole = (A j).whole := fun j h1 h2 => by
    by_cases hj : j = da
    · by_cases h0 : da = 0
      · rw [p3o j h2 (fun h => absurd h0 h), p2o j h1 h2]
        by_cases hg : j = g
        · rw [hg, p1g]
          match s, hs2 with
          | 0, _ => rfl
          | 1, _ => rfl
        · rw [p1o j h1 hg]
      · rw [hj, p3d h0]; rfl
    · rw [p3o j h2 (fun _ => hj), p2o j h1 h2]
      by_cases hg : j = g
      · rw [hg, p1g]
        match s, hs2 with
        | 0, _ => rfl
        | 1, _ => rfl
      · rw [p1o j h1 hg]
  refine ⟨?_, ?_, cw⟩
  · rw [p3i]; simp [Th.put]
  · rw [p3u]; simp [Th.put]
end Go.Proofs.YtnilikomoapcaaaGreat
