/- The contract of slices.SortFunc of places, as ops.inOrder calls it. -/
import Derived.Test.YtphcnjbiojdalaaGreatDoorPart15
import Derived.Test.YtphcnjbiojdalaaGreatDoorPart16
import Derived.Test.YtphcnjbiojdalaaGreatDoorPart14
import Derived.Test.YtphcnjbiojdalaaGreatDoorPart13
import Derived.Deep.LoopGhost
import Derived.Deep.RegionHeld3
import Derived.Deep.MidRow
namespace Go.Proofs.YtphcnjbiojdalaaGreatDoor
open Go.RowKit Go.Sort
set_option linter.unusedVariables false
set_option linter.unusedSimpArgs false
set_option maxRecDepth 100000

def atO (l : List O) (i : Nat) : O := l.getD i zeroO
theorem atO_of {l : List O} {i : Nat} (h : i < l.length) : atO l i = l[i] := by unfold atO; rw [List.getD_eq_getElem?_getD, List.getElem?_eq_getElem h]; rfl
/-- By ids. -/
def idLt (a b : O) : Prop := a.c < b.c ∨ (a.c = b.c ∧ a.k < b.k)
/-- By ids, then as they stood. -/
def plLt (l : List O) (i j : Nat) : Prop := idLt (atO l i) (atO l j) ∨ ((atO l i).c = (atO l j).c ∧ (atO l i).k = (atO l j).k ∧ i < j)
def cmpL (l : List O) (n : Nat) (x y : Fin n) : Int := cmpP (atO l x.val).c (atO l x.val).k (atO l y.val).c (atO l y.val).k (x.val : Int) (y.val : Int)
theorem cmpL_lt (l : List O) (n : Nat) (x y : Fin n) : ltOf (cmpL l n) x y = true ↔ plLt l x.val y.val := by
  unfold ltOf
  rw [decide_eq_true_iff]
  unfold cmpL cmpP orI cmpI plLt idLt lessI cmpU
  generalize (atO l x.val).c = a
  generalize (atO l x.val).k = b
  generalize (atO l y.val).c = c
  generalize (atO l y.val).k = d
  obtain ⟨i, hi⟩ := x
  obtain ⟨j, hj⟩ := y
  simp only
  have e : ((i : Int) < (j : Int)) ↔ i < j := by omega
  have e' : ((j : Int) < (i : Int)) ↔ j < i := by omega
  by_cases h1 : a = c
  · subst h1
    by_cases h2 : b < d
    · simp [h2]
    · by_cases h3 : d < b
      · have h4 : ¬ b = d := by omega
        simp [h2, h3, h4]
      · obtain rfl : b = d := by omega
        by_cases h5 : i < j
        · simp [h2, h5]
        · by_cases h6 : j < i
          · simp [h2, h5, h6]
          · simp [h2, h5, h6]
  · have h1' : ¬ c = a := fun h => h1 h.symm
    by_cases h2 : a < c
    · simp [h1, h2]
    · have h3 : c < a := by omega
      simp [h1, h1', h2, h3]
theorem cmpL_nlt (l : List O) (n : Nat) (x y : Fin n) : ltOf (cmpL l n) x y = false ↔ ¬ plLt l x.val y.val := by
  rw [Bool.eq_false_iff, ne_eq, cmpL_lt]
theorem cmpL_swo (l : List O) (n : Nat) : SWO (ltOf (cmpL l n)) where
  irrefl x := by rw [cmpL_nlt]; unfold plLt idLt; omega
  trans x y z h1 h2 := by rw [cmpL_lt] at *; unfold plLt idLt at *; omega
  ntrans x y z h1 h2 := by rw [cmpL_nlt] at *; unfold plLt idLt at *; omega
/-- Places lie in a block. -/
def IntsAt (w : World) (g : Nat) (p : List Nat) : Prop := ∀ j (h : j < p.length), w.cell? ⟨g, j, none⟩ = some (.int .i64 (p[j] : Int)) ∧ w.frozen? ⟨g, j, none⟩ = false
def encF (n : Nat) (x : Fin n) : Value := .int .i64 (x.val : Int)
theorem sortPl_any (l : List O) (hne : l ≠ []) (B b o cap : Nat) (w : World) (hB : w.cell? ⟨B, 0, none⟩ = some (.slice (some ⟨b, o, none⟩) l.length cap)) (hL : ∀ j (h : j < l.length), w.rangeAt b (o + j * 22) l[j].vals.toList)
    (g gcap : Nat) (hg : IntsAt w g (List.range l.length)) (hgl : g < w.heap.size) (hgB : B ≠ g) (hgb : b ≠ g) (hl : l.length ≤ 1073741824) :
    Calls Tryz.prog 81 #[.slice (some ⟨g, 0, none⟩) l.length gcap, .func (.func 82) #[] #[.pointer (some ⟨B, 0, none⟩)]] w fun e w' => e = .returned (.tuple #[]) ∧ ∃ p : List Nat, p.Perm (List.range l.length) ∧ p.Pairwise (fun i j => ¬ plLt l j i) ∧ IntsAt w' g p ∧ Touch (· = g) w w' := by
  obtain ⟨m, hm⟩ : ∃ m, l.length = m + 1 := ⟨l.length - 1, by have := List.length_pos_iff.2 hne; omega⟩
  have eg : ∀ args w, (callFunc 82 args).run Tryz.prog w = .ok (.enter 82 args) w := enters_of Tryz.func82 (by kernel_rfl) rfl
  obtain ⟨d, hd⟩ : ∃ d : Array (Fin (m + 1)), d = (List.finRange (m + 1)).toArray := ⟨_, rfl⟩
  have hds : d.size = m + 1 := by rw [hd]; simp
  have hdg : ∀ j (h : j < d.size), (d[j]!).val = j := fun j h => by
    rw [getElem!_pos d j h]
    subst hd
    simp
  have hH : Holds (encF (m + 1)) w g 0 d := by
    intro j hj
    have := hg j (by simp; omega)
    rw [Nat.zero_add]
    unfold encF
    rw [hdg j hj]
    simpa using this
  have hrow : ∀ (W : World), (∀ k, k < w.heap.size → k ≠ g → W.heap[k]? = w.heap[k]?) → W.cell? ⟨B, 0, none⟩ = some (.slice (some ⟨b, o, none⟩) l.length cap) ∧ ∀ j, j < l.length → W.cell? ⟨b, o + j * 22, none⟩ = some (.int .u64 (atO l j).c) ∧ W.cell? ⟨b, o + j * 22 + 1, none⟩ = some (.int .u64 (atO l j).k) := by
    intro W hW
    have q : ∀ b o v, b ≠ g → w.cell? ⟨b, o, none⟩ = some v → W.cell? ⟨b, o, none⟩ = some v := fun b o v hb h => by
      rw [World.cell?_of_block (hW _ (World.block_lt_of_cell? _ _ h) hb)]; exact h
    refine ⟨q _ _ _ hgB hB, fun j hj => ?_⟩
    have r := hL j hj
    rw [atO_of hj]
    refine ⟨q _ _ _ hgb ?_, q _ _ _ hgb ?_⟩
    · have := r 0 (.int .u64 l[j].c) rfl
      simpa using this
    · exact r 1 (.int .u64 l[j].k) rfl
  have hcmp : CmpLays1 Tryz.prog 82 #[.pointer (some ⟨B, 0, none⟩)] (encF (m + 1)) (cmpL l (m + 1)) g 0 d.size w := by
    intro q os dk hk x y
    have hx : x.val < l.length := by have := x.isLt; omega
    have hy : y.val < l.length := by have := y.isLt; omega
    obtain ⟨h1, h2⟩ := hrow (sortWorld (encF (m + 1)) w g 0 q dk os) (fun k hk hn => by
      unfold sortWorld
      rw [heap_grow_old _ _ (by simpa [putRow, mapBlock, Sort.ahead] using hk)]
      simp [putRow, mapBlock, Sort.ahead, Array.getElem?_modify, Ne.symm hn])
    refine (inOrd1_any _ _ _ _ x.val y.val l.length hx hy B b o cap _ h1 (h2 _ hx).1 (h2 _ hx).2 (h2 _ hy).1 (h2 _ hy).2).mono ?_
    rintro e w' ⟨h1, q', os', h2⟩
    exact ⟨h1, q', os', h2⟩
  have hcon := Any.slices_SortFunc Tryz.sortI (encF (m + 1)) (fun _ => rfl) (cmpL l (m + 1)) (cmpL_swo l (m + 1)) 82 #[.pointer (some ⟨B, 0, none⟩)] g 0 gcap d w eg hcmp hH hgl (by omega)
  change Calls Tryz.prog 81 _ _ _ at hcon
  rw [hds] at hcon
  rw [hm]
  refine hcon.mono ?_
  rintro e w' ⟨rfl, d', n, os, hp, hs, rfl⟩
  have hsz : d'.size = m + 1 := by have := hp.1; omega
  have hx : (d'.extract 0 (m + 1)) = d' := Array.ext (by simp; omega) (by intro i h1 h2; simp)
  have hy : (d.extract 0 (m + 1)) = d := Array.ext (by simp; omega) (by intro i h1 h2; simp)
  have hH2 : Holds (encF (m + 1)) (sortWorld (encF (m + 1)) w g 0 n d' os) g 0 d' := by
    unfold sortWorld
    refine holds_grow _ _ os g 0 d' ?_ (holds_putRow _ _ g 0 d d' (holds_ahead _ w n g 0 _ hH) (by rw [hsz, hds]))
    simpa [putRow, mapBlock, Sort.ahead] using hgl
  refine ⟨rfl, d'.toList.map (fun x : Fin (m + 1) => x.val), ?_, ?_, ?_, ?_⟩
  · have hpp := hp.2.2
    rw [hx, hy] at hpp
    have h3 : d'.toList.Perm d.toList := by simpa using hpp
    have h4 := h3.map (fun x : Fin (m + 1) => x.val)
    have h5 : d.toList.map (fun x : Fin (m + 1) => x.val) = List.range (m + 1) := by
      rw [hd]
      apply List.ext_getElem
      · simp
      · intro i h1 h2
        simp
    rw [h5] at h4
    exact h4
  · rw [List.pairwise_map, List.pairwise_iff_getElem]
    intro i j hi hj hij
    have hi' : i < d'.size := by simpa using hi
    have hj' : j < d'.size := by simpa using hj
    have := hs i j (Nat.zero_le _) hij (by omega)
    rw [cmpL_nlt, getElem!_pos d' i hi', getElem!_pos d' j hj'] at this
    simpa using this
  · intro j hj
    have hj' : j < d'.size := by simpa using hj
    have := hH2 j hj'
    rw [Nat.zero_add, getElem!_pos d' j hj'] at this
    simpa [encF] using this
  · refine ⟨rfl, rfl, rfl, ?_, fun k hk hn => ?_⟩
    · simp [sortWorld, putRow, mapBlock, Sort.ahead]
    · unfold sortWorld
      rw [heap_grow_old _ _ (by simpa [putRow, mapBlock, Sort.ahead] using hk)]
      simp [putRow, mapBlock, Sort.ahead, Array.getElem?_modify, Ne.symm hn]
/-- What is sorted, and what is sorted strictly, are one. -/
theorem sort_one {α : Type} {r : α → α → Prop} : ∀ (s out : List α), out.Perm s → out.Pairwise (fun a b => ¬ r b a) → s.Pairwise r → out = s
  | [], out, hp, _, _ => List.perm_nil.1 hp
  | a :: s, [], hp, _, _ => by simpa using hp.length_eq
  | a :: s, b :: out, hp, h1, h2 => by
    have h1' := List.pairwise_cons.1 h1
    have h2' := List.pairwise_cons.1 h2
    have e : b = a := by
      apply Classical.byContradiction
      intro hne
      have hb : b ∈ s := by
        have : b ∈ a :: s := hp.subset (List.mem_cons_self ..)
        rcases List.mem_cons.1 this with h | h
        · exact absurd h hne
        · exact h
      have ha : a ∈ out := by
        have : a ∈ b :: out := hp.symm.subset (List.mem_cons_self ..)
        rcases List.mem_cons.1 this with h | h
        · exact absurd h.symm hne
        · exact h
      exact h1'.1 a ha (h2'.1 b hb)
    subst e
    rw [sort_one s out (List.Perm.cons_inv hp) h1'.2 h2'.2]
/-- Places in order, of operations whose ids are unlike. -/
theorem places_one (l s : List O) (p : List Nat) (hp : p.Perm (List.range l.length)) (h1 : p.Pairwise (fun i j => ¬ plLt l j i)) (hs : s.Perm l) (h2 : s.Pairwise idLt) : p.map (atO l) = s := by
  refine sort_one (r := idLt) s _ ?_ ?_ h2
  · have h3 := hp.map (atO l)
    have h4 : (List.range l.length).map (atO l) = l := by
      apply List.ext_getElem
      · simp
      · intro i h1 h2
        simp only [List.getElem_map, List.getElem_range]
        exact atO_of h2
    rw [h4] at h3
    exact h3.trans hs.symm
  · rw [List.pairwise_map]
    exact h1.imp fun h hl => h (.inl hl)
end Go.Proofs.YtphcnjbiojdalaaGreatDoor

/- slices.CompactFunc of operations of which no two neighbours are alike: as it is. -/
namespace Go.Proofs.YtphcnjbiojdalaaGreatDoor
open Go.RowKit
set_option linter.unusedVariables false
set_option linter.unusedSimpArgs false
set_option maxRecDepth 100000

theorem wrap_i64_small (n : Int) (h0 : -9223372036854775808 ≤ n) (h1 : n < 9223372036854775808) : IntKind.i64.wrap n = n := by rw [IntKind.wrap_i64]; omega
theorem Touch.drew_left {S : Nat → Prop} {a b : World} (h : Touch S a.drew b) : Touch S a b := ⟨h.os, h.tape, h.output, h.size, h.block⟩
set_option maxHeartbeats 4000000 in
theorem compact_any (l : List O) (hne : l ≠ []) (v : Value) (w : World) (hsl : SlP w v l) (hl : l.length ≤ 1073741824) (hno : ∀ j (h : j + 1 < l.length), ((l[j + 1].c == l[j].c) && (l[j + 1].k == l[j].k)) = false) :
    Calls Tryz.prog 75 #[v, .func (.func 76) #[] #[]] w fun e w' => e = .returned v ∧ Touch (fun _ => False) w w' := by
  obtain ⟨b, o, cap, rfl, hcap, hcm, hrow⟩ := hsl.row hne
  have hblt : b < w.heap.size := by
    have h0 := List.length_pos_iff.2 hne
    have := hrow 0 h0 0 (.int .u64 l[0].c) rfl
    exact World.block_lt_of_cell? _ _ this
  have HRW : Hid (∀ (W : World), Touch (fun _ => False) w W → ∀ j (h : j < l.length), W.rangeAt b (o + j * 22) l[j].vals.toList) := fun W t j h i u hu => by
    rw [World.cell?_of_block (t.block _ hblt id)]; exact hrow j h i u hu
  have HNO : Hid (∀ j (h : j + 1 < l.length), ((l[j + 1].c == l[j].c) && (l[j + 1].k == l[j].k)) = false) := hno
  have hl0 := List.length_pos_iff.2 hne
  clear hrow hcap hcm hblt hno hsl hne
  by_cases h2 : l.length < 2
  · have h2' : (l.length : Int) < 2 := by omega
    clear HRW HNO
    generalize l.length = n at *
    go_enter Tryz.func75, Tryz.ntmps75
    go_wp2_with fail
    go_ret
    exact ⟨rfl, Touch.refl _ _⟩
  · have h2' : ¬ (l.length : Int) < 2 := by omega
    go_enter Tryz.func75, Tryz.ntmps75
    go_wp2_with fail
    go_loopg [5] (l.length - 1) (fun gk s5 wx => ∃ m : Nat, m + 1 + gk = l.length ∧ s5 = .int .i64 ((m : Int) + 1) ∧ Hid (Touch (fun _ => False) w wx))
    case atStart => exact ⟨0, by omega, rfl, Touch.refl _ _⟩
    case round =>
      obtain ⟨m, hmg, rfl, HI⟩ := hrel
      obtain ⟨wx, hwx⟩ : ∃ wx, wx = wr := ⟨_, rfl⟩
      subst hwx
      by_cases hml : m + 1 < l.length
      · have i1 : (m : Int) + 1 < (l.length : Int) := by omega
        have i2 : (0 : Int) ≤ (m : Int) + 1 := by omega
        have i3 : (m : Int) < (l.length : Int) := by omega
        have i4 : (0 : Int) ≤ (m : Int) := by omega
        have i5 : ((m : Int) + 1).toNat = m + 1 := by omega
        have i6 : IntKind.i64.wrap ((m : Int) + 1 - 1) = (m : Int) := by rw [Int.add_sub_cancel]; exact wrap_i64_small _ (by omega) (by omega)
        have i7 : IntKind.i64.wrap (m : Int) = (m : Int) := wrap_i64_small _ (by omega) (by omega)
        have HR : Hid (∀ W, Touch (fun _ => False) w W → W.rangeAt b (o + m * 22) l[m].vals.toList ∧ W.rangeAt b (o + (m + 1) * 22) l[m + 1].vals.toList) := fun W t => ⟨HRW.out W t m (by omega), HRW.out W t (m + 1) hml⟩
        have HE : Hid (∀ W, Calls Tryz.prog 76 #[l[m + 1].val, l[m].val] W fun e w' => e = .returned (.bool false) ∧ Touch (fun _ => False) W w') := fun W => (sameId_any l[m + 1] l[m] W).mono (by rintro e w2 ⟨rfl, t⟩; exact ⟨by rw [HNO.out m hml], t⟩)
        have eg : ∀ args w, (callFunc 76 args).run Tryz.prog w = .ok (.enter 76 args) w := enters_of Tryz.func76 (by kernel_rfl) rfl
        generalize l[m] = x at *
        generalize l[m + 1] = y at *
        have hS0 : wx.drew.rangeAt b (o + m * 22) x.vals.toList ∧ wx.drew.rangeAt b (o + (m + 1) * 22) y.vals.toList := HR.out wx.drew HI.out.drew
        go_upto_region 6 with fail
        refine wp_region_held_drew (S := fun W => W.rangeAt b (o + m * 22) x.vals.toList ∧ W.rangeAt b (o + (m + 1) * 22) y.vals.toList) (by kernel_rfl) hS0 (fun hHeld => ?_)
        refine wpAnyH_take (i := 0) (oi := { dst := some 18, op := Go.Op.move (Go.Operand.tmp 1), type := 39, pos := "slices.go:401", after := #[], guard := none }) (v := .func (.func 76) #[] #[]) rfl (by kernel_rfl) (by kernel_rfl) (by kernel_rfl) (fun _ _ _ h => h) (Or.inl ⟨by rfl, ?_⟩) hHeld ?_
        · intro w hSw; clear hSw; go_simp
        simp only [Act.put, List.setIfInBounds_toArray]
        refine wpAnyH_take (i := 1) (oi := { dst := some 19, op := Go.Op.move (Go.Operand.tmp 0), type := 45, pos := "slices.go:401", after := #[], guard := none }) (v := .slice (some ⟨b, o, none⟩) l.length cap) rfl (by kernel_rfl) (by kernel_rfl) (by kernel_rfl) (fun _ _ _ h => h) (Or.inl ⟨by rfl, ?_⟩) hHeld ?_
        · intro w hSw; clear hSw; go_simp
        simp only [Act.put, List.setIfInBounds_toArray]
        refine wpAnyH_take (i := 2) (oi := { dst := some 20, op := Go.Op.move (Go.Operand.tmp 5), type := 3, pos := "slices.go:401", after := #[], guard := none }) (v := .int .i64 ((m : Int) + 1)) rfl (by kernel_rfl) (by kernel_rfl) (by kernel_rfl) (fun _ _ _ h => h) (Or.inl ⟨by rfl, ?_⟩) hHeld ?_
        · intro w hSw; clear hSw; go_simp
        simp only [Act.put, List.setIfInBounds_toArray]
        refine wpAnyH_take (i := 3) (oi := { dst := some 21, op := Go.Op.indexAddr 45 (Go.Operand.tmp 19) (Go.Operand.tmp 20), type := 0, pos := "slices.go:401", after := #[{ on := 1, ground := Go.Ground.data }, { on := 2, ground := Go.Ground.data }], guard := none }) (v := .pointer (some ⟨b, o + (m + 1) * 22, none⟩)) rfl (by kernel_rfl) (by kernel_rfl) (by kernel_rfl) (fun _ _ _ h => h) (Or.inl ⟨by rfl, ?_⟩) hHeld ?_
        · intro w hSw; clear hSw; go_simp
        simp only [Act.put, List.setIfInBounds_toArray]
        refine wpAnyH_take (i := 4) (oi := { dst := some 22, op := Go.Op.load 31 (Go.Operand.tmp 21), type := 31, pos := "slices.go:401", after := #[{ on := 3, ground := Go.Ground.data }], guard := none }) (v := y.val) rfl (by kernel_rfl) (by kernel_rfl) (by kernel_rfl) (fun _ _ _ h => h) (yieldsIf_load_mid (by rfl) 31 (.tmp 21) rfl b (o + (m + 1) * 22) rfl y.vals.toList _ (fun w hw => hw.2) Tryz.underlying31 rfl (by kernel_rfl)) hHeld ?_
        simp only [Act.put, List.setIfInBounds_toArray]
        refine wpAnyH_take (i := 5) (oi := { dst := some 23, op := Go.Op.move (Go.Operand.tmp 0), type := 45, pos := "slices.go:401", after := #[], guard := none }) (v := .slice (some ⟨b, o, none⟩) l.length cap) rfl (by kernel_rfl) (by kernel_rfl) (by kernel_rfl) (fun _ _ _ h => h) (Or.inl ⟨by rfl, ?_⟩) hHeld ?_
        · intro w hSw; clear hSw; go_simp
        simp only [Act.put, List.setIfInBounds_toArray]
        refine wpAnyH_take (i := 6) (oi := { dst := some 24, op := Go.Op.move (Go.Operand.tmp 5), type := 3, pos := "slices.go:401", after := #[], guard := none }) (v := .int .i64 ((m : Int) + 1)) rfl (by kernel_rfl) (by kernel_rfl) (by kernel_rfl) (fun _ _ _ h => h) (Or.inl ⟨by rfl, ?_⟩) hHeld ?_
        · intro w hSw; clear hSw; go_simp
        simp only [Act.put, List.setIfInBounds_toArray]
        refine wpAnyH_take (i := 7) (oi := { dst := some 25, op := Go.Op.binOp Go.BinOp.sub 3 (Go.Operand.tmp 24) (Go.Operand.const (Go.Value.int Go.IntKind.i64 1)) 3, type := 3, pos := "slices.go:401", after := #[{ on := 6, ground := Go.Ground.data }], guard := none }) (v := .int .i64 (m : Int)) rfl (by kernel_rfl) (by kernel_rfl) (by kernel_rfl) (fun _ _ _ h => h) (Or.inl ⟨by rfl, ?_⟩) hHeld ?_
        · intro w hSw; clear hSw; go_simp
        simp only [Act.put, List.setIfInBounds_toArray]
        refine wpAnyH_take (i := 8) (oi := { dst := some 26, op := Go.Op.indexAddr 45 (Go.Operand.tmp 23) (Go.Operand.tmp 25), type := 0, pos := "slices.go:401", after := #[{ on := 5, ground := Go.Ground.data }, { on := 7, ground := Go.Ground.data }], guard := none }) (v := .pointer (some ⟨b, o + m * 22, none⟩)) rfl (by kernel_rfl) (by kernel_rfl) (by kernel_rfl) (fun _ _ _ h => h) (Or.inl ⟨by rfl, ?_⟩) hHeld ?_
        · intro w hSw; clear hSw; go_simp
        simp only [Act.put, List.setIfInBounds_toArray]
        refine wpAnyH_take (i := 9) (oi := { dst := some 27, op := Go.Op.load 31 (Go.Operand.tmp 26), type := 31, pos := "slices.go:401", after := #[{ on := 8, ground := Go.Ground.data }], guard := none }) (v := x.val) rfl (by kernel_rfl) (by kernel_rfl) (by kernel_rfl) (fun _ _ _ h => h) (yieldsIf_load_mid (by rfl) 31 (.tmp 26) rfl b (o + m * 22) rfl x.vals.toList _ (fun w hw => hw.1) Tryz.underlying31 rfl (by kernel_rfl)) hHeld ?_
        simp only [Act.put, List.setIfInBounds_toArray]
        refine wpAnyH_ready (rs := [10]) (by kernel_rfl) (by simp) ?_
        refine AllReadyH.cons (o := { dst := some 28, op := Go.Op.call { callee := Go.Callee.value (Go.Operand.tmp 18), args := #[Go.Operand.tmp 22, Go.Operand.tmp 27], argTypes := #[31, 31] }, type := 4, pos := "slices.go:401", after := #[{ on := 0, ground := Go.Ground.data }, { on := 4, ground := Go.Ground.data }, { on := 9, ground := Go.Ground.data }], guard := none }) rfl (fun K hK => ?_) AllReadyH.nil
        go_simp
        refine (HE.out _).mono ?_
        rintro e w2 ⟨rfl, hT⟩
        have HT2 : Hid (Touch (fun _ => False) w w2) := HI.out.trans (Touch.drew_left hT)
        have hS2 := HR.out w2 HT2.out
        clear hT
        refine hK.out _ _ hS2 (fun hHeld => ?_)
        clear hK K hS2
        refine wpAnyH_done (by kernel_rfl) ?_ _
        try simp only [List.getElem_toArray, List.getElem_cons_succ, List.getElem_cons_zero, List.setIfInBounds_toArray, List.set_cons_succ, List.set_cons_zero]
        clear hHeld hS0
        go_wp2_with fail
        go_roundg (l.length - (m + 1 + 1))
        case measure => omega
        case rel => exact ⟨m + 1, by omega, by push_cast; rfl, HT2.out⟩
      · obtain hml2 : m + 1 = l.length := by omega
        have i1 : ¬ (m : Int) + 1 < (l.length : Int) := by omega
        clear hml2
        go_wp2_with fail
        go_ret
        exact ⟨rfl, HI.out⟩
end Go.Proofs.YtphcnjbiojdalaaGreatDoor
