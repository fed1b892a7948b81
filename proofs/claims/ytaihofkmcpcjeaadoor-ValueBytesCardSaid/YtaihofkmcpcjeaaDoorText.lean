/- The contract of wire's Reader.Text. -/
import Derived.Test.YtaihofkmcpcjeaaDoorPart6
import Derived.Test.YtaihofkmcpcjeaaDoorHelpB
import Derived.Laws.IdiomStrings
import Derived.Laws.BytesArg
import Derived.Deep.RegionHeld
namespace Go.Proofs.YtaihofkmcpcjeaaDoor
open Go.RowKit
set_option linter.unusedVariables false

theorem rdU_le' (bs : List UInt8) (most : Nat) : (rdU bs most).2.1 ≤ most := by
  unfold rdU; split
  · simp
  · split
    · simp
    · simp; omega

theorem Rd.drew {w : World} {p g : Nat} {bs : List UInt8} {er : Int} (h : Rd w p g bs er) : Rd w.drew p g bs er := h.keep (S := fun _ => False) (Touch.refl _ _).drew id (fun _ => id)

/-- What Text does behind a number that was read. -/
def rdText (bs : List UInt8) (er : Int) (most : Nat) : Int × Value × List UInt8 :=
  outcome er (if (rdU bs most).1 ≠ 0 then (rdU bs most).1 else if (rdU bs most).2.2.length < (rdU bs most).2.1 then 10 else 0) bs ((rdU bs most).2.2.drop (rdU bs most).2.1) (.string ByteArray.empty) (.string ⟨((rdU bs most).2.2.take (rdU bs most).2.1).toArray⟩)

theorem NumPost.fails {p g : Nat} {bs : List UInt8} {er x : Int} {most : Nat} {w w' : World} {e : Ending} (h : NumPost p g bs er most w e w') (hx : (rdU bs most).1 = x) (h0 : x ≠ 0) : e = .panicked [thrown x] ∧ Touch (· = p) w w' ∧ ∃ cs, Rd w' p g cs er := by
  obtain ⟨hT, ⟨h1, _⟩ | ⟨_, he, _, hR⟩⟩ := h.ways
  · exact absurd (hx.symm.trans h1) h0
  · exact ⟨by rw [he, hx], hT, hR⟩
theorem NumPost.reads {p g : Nat} {bs : List UInt8} {er : Int} {most : Nat} {w w' : World} {e : Ending} (h : NumPost p g bs er most w e w') (h0 : (rdU bs most).1 = 0) : e = .returned (.int .u64 (rdU bs most).2.1) ∧ Touch (· = p) w w' ∧ Rd w' p g (rdU bs most).2.2 er := by
  obtain ⟨hT, ⟨h1, he, hR⟩ | ⟨h1, _⟩⟩ := h.ways
  · exact ⟨he, hT, hR⟩
  · exact absurd h0 h1

/-- The bound, as the walk spells it. -/
theorem most_of (M : Int) (h1 : M < 9223372036854775808) : ∃ mm : Int, (if M < 0 then 0 else M) = mm ∧ IntKind.u64.wrap mm = ((max M 0).toNat : Int) := by
  refine ⟨_, rfl, ?_⟩
  split
  · rw [wrap_u64_small _ (by omega) (by omega)]; omega
  · rw [wrap_u64_small _ (by omega) (by omega)]; omega

/-- The closure's boxes. -/
structure TextBoxes (w : World) (p b0 b1 b2 : Nat) (M : Int) : Prop where
  r : w.heap[b0]? = some (.cells #[.pointer (some ⟨p, 0, none⟩)] 48 (0, 0))
  m : w.heap[b1]? = some (.cells #[.int .i64 M] 3 (0, 0))
  n : w.heap[b2]? = some (.cells #[.string ByteArray.empty] 9 (0, 0))

theorem Touch.undrew {S : Nat → Prop} {w w' : World} (h : Touch S w.drew w') : Touch S w w' := ⟨h.os, h.tape, h.output, h.size, h.block⟩

/-- The error of a text's reading. -/
def textErr (bs : List UInt8) (most : Nat) : Int := if (rdU bs most).1 ≠ 0 then (rdU bs most).1 else if (rdU bs most).2.2.length < (rdU bs most).2.1 then 10 else 0

set_option maxRecDepth 100000 in
set_option maxHeartbeats 800000 in
theorem text_in (p g : Nat) (bs : List UInt8) (b0 b1 b2 : Nat) (M : Int) (w : World) (h : Rd w p g bs 0) (hB : TextBoxes w p b0 b1 b2 M) (h2 : b2 ≠ p) (hg : b2 ≠ g) (h3 : b0 ≠ p) (h4 : b1 ≠ p) (h5 : b2 ≠ b0) (h6 : b2 ≠ b1)
    (hM1 : M < 9223372036854775808) (most : Nat) (hmost : (max M 0).toNat = most) :
    Calls Tryd.prog 98 #[.pointer (some ⟨b0, 0, none⟩), .pointer (some ⟨b1, 0, none⟩), .pointer (some ⟨b2, 0, none⟩)] w
      (InPost p g b2 9 (textErr bs most) (.string ByteArray.empty) (.string ⟨((rdU bs most).2.2.take (rdU bs most).2.1).toArray⟩) ((rdU bs most).2.2.drop (rdU bs most).2.1) w) := by
  have c0 : w.cell? ⟨b0, 0, none⟩ = some (.pointer (some ⟨p, 0, none⟩)) := by rw [cell_of_block hB.r]; rfl
  have c1 : w.cell? ⟨b1, 0, none⟩ = some (.int .i64 M) := by rw [cell_of_block hB.m]; rfl
  obtain ⟨mm, hif, hw⟩ := most_of M hM1
  rw [hmost] at hw
  have HN : Hid (∀ W, Rd W p g bs 0 → Calls Tryd.prog 96 #[.pointer (some ⟨p, 0, none⟩), .int .u64 most] W (NumPost p g bs 0 most W)) := fun W h => number_any p g bs 0 most W h (by omega)
  have HB : Hid (w.heap[b2]? = some (.cells #[.string ByteArray.empty] 9 (0, 0))) := hB.n
  have hb2 := lt_of_heap hB.n
  have hb0 := lt_of_heap hB.r
  have hb1 := lt_of_heap hB.m
  have hml : most < 9223372036854775808 := by omega
  clear hB hmost
  generalize hte : textErr bs most = te
  have HTE : Hid (textErr bs most = te) := hte
  generalize hr0 : rdU bs most = r0
  have HR0 : Hid (rdU bs most = r0) := hr0
  clear hte hr0
  obtain ⟨x0, V, cs0⟩ := r0
  go_enter Tryd.func98, Tryd.ntmps98
  go_wp2_with fail
  refine wp_region_held_drew (S := fun w' => w'.cell? ⟨b0, 0, none⟩ = some (.pointer (some ⟨p, 0, none⟩)) ∧ w'.cell? ⟨b1, 0, none⟩ = some (.int .i64 M)) (by kernel_rfl) (by simp [c0, c1]) (fun hHeld => ?_)
  refine wpAnyH_take (i := 0) (v := .pointer (some ⟨p, 0, none⟩)) rfl (by kernel_rfl) (by kernel_rfl) (by kernel_rfl) (fun _ _ _ h => h) (Or.inl ⟨by rfl, ?_⟩) hHeld ?_
  · intro w hSw; go_simp
  simp only [Act.put, List.setIfInBounds_toArray]
  refine wpAnyH_take (i := 1) (v := .pointer (some ⟨p, 0, none⟩)) rfl (by kernel_rfl) (by kernel_rfl) (by kernel_rfl) (fun _ _ _ h => h) (Or.inl ⟨by rfl, ?_⟩) hHeld ?_
  · intro w hSw; go_simp
  simp only [Act.put]
  refine wpAnyH_take (i := 2) (v := .int .i64 M) rfl (by kernel_rfl) (by kernel_rfl) (by kernel_rfl) (fun _ _ _ h => h) (Or.inl ⟨by rfl, ?_⟩) hHeld ?_
  · intro w hSw; go_simp
  simp only [Act.put]
  refine wpAnyH_take (i := 3) (v := .int .i64 mm) rfl (by kernel_rfl) (by kernel_rfl) (by kernel_rfl) (fun _ _ _ h => h) (Or.inl ⟨by rfl, ?_⟩) hHeld ?_
  · intro w hSw; go_simp
  simp only [Act.put]
  refine wpAnyH_take (i := 4) (v := .int .u64 most) rfl (by kernel_rfl) (by kernel_rfl) (by kernel_rfl) (fun _ _ _ h => h) (Or.inl ⟨by rfl, ?_⟩) hHeld ?_
  · intro w hSw; go_simp
  simp only [Act.put]
  refine wpAnyH_ready (rs := [5]) (by kernel_rfl) (by simp) ?_
  refine AllReadyH.cons rfl (fun K hK => ?_) AllReadyH.nil
  go_simp
  refine (HN.out _ h.drew).mono ?_
  intro e w1 hP
  obtain ⟨hT, hP⟩ := hP.ways
  have hT := hT.undrew
  rw [HR0.out] at hP
  have hb : w1.heap[b2]? = some (.cells #[.string ByteArray.empty] 9 (0, 0)) := (hT.block b2 hb2 h2).trans HB.out
  have d0 : w1.cell? ⟨b0, 0, none⟩ = some (.pointer (some ⟨p, 0, none⟩)) := (hT.cell hb0 h3 0).trans c0
  have d1 : w1.cell? ⟨b1, 0, none⟩ = some (.int .i64 M) := (hT.cell hb1 h4 0).trans c1
  rcases hP with ⟨h0, rfl, hR⟩ | ⟨h0, rfl, _, hR⟩
  · refine hK.out _ _ ⟨d0, d1⟩ (fun hHeld => ?_)
    clear hK K
    dsimp only
    refine wpAnyH_ready (rs := [6]) (by kernel_rfl) (by simp) ?_
    refine AllReadyH.cons rfl (fun K hK => ?_) AllReadyH.nil
    go_simp
    have hVm : V ≤ most := by have := rdU_le' bs most; rw [HR0.out] at this; exact this
    by_cases hV : cs0.length < V
    · have hx : te = 10 := by rw [← HTE.out, textErr, HR0.out]; simp only; rw [if_neg (by simpa using h0), if_pos hV]
      refine (take_short p g V cs0 0 w1 hR hV (by omega) V rfl).mono ?_
      rintro e w2 ⟨rfl, rfl⟩
      exact ⟨rfl, .inr ⟨by rw [hx]; decide, by rw [hx], ⟨_, hR⟩, hT.mono fun _ _ h => .inl h, hb⟩⟩
    · have hx : te = 0 := by rw [← HTE.out, textErr, HR0.out]; simp only; rw [if_neg (by simpa using h0), if_neg hV]
      have hp1 := hR.lt
      have hg1 := hR.ltBytes
      refine (take_ok p g V cs0 0 w1 hR (by omega) V rfl).mono ?_
      rintro e w2 ⟨ao, cap, rfl, hL, hR2, hT2⟩
      have hbb : w2.heap[b2]? = some (.cells #[.string ByteArray.empty] 9 (0, 0)) := (hT2.block b2 (lt_of_heap hb) h2).trans hb
      have e0 : w2.cell? ⟨b0, 0, none⟩ = some (.pointer (some ⟨p, 0, none⟩)) := (hT2.cell (World.block_lt_of_cell? _ _ d0) h3 0).trans d0
      have e1 : w2.cell? ⟨b1, 0, none⟩ = some (.int .i64 M) := (hT2.cell (World.block_lt_of_cell? _ _ d1) h4 0).trans d1
      have hconv := lies_string hL V cap (by rw [List.length_take]; omega)
      have c2 : w2.cell? ⟨b2, 0, none⟩ = some (.string ByteArray.empty) := by rw [cell_of_block hbb]; rfl
      have z2 : w2.frozen? ⟨b2, 0, none⟩ = false := free_of_block hbb
      have HQ : Hid (InPost p g b2 9 te (.string ByteArray.empty) (.string ⟨(cs0.take V).toArray⟩) (cs0.drop V) w (.returned (.tuple #[])) (w2.setCell ⟨b2, 0, none⟩ (.string ⟨(cs0.take V).toArray⟩))) := by
        refine .inl ⟨hx, rfl, hR2.keep (S := (· = b2)) ((Touch.refl _ _).setCell _ _ fun _ => rfl) (Ne.symm h2) (fun _ => Ne.symm hg), ?_, ?_⟩
        · exact ((hT.mono fun _ _ h => .inl h).then hT2 fun _ _ h => .inl h).setCell _ _ fun _ => .inr rfl
        · rw [heap_setCell_same _ _ _ _ hbb]; rfl
      refine hK.out _ _ ⟨e0, e1⟩ (fun hHeld => ?_)
      clear hK K hL hR2 hT2 hR hT hb hbb HTE HR0 HB HN
      skip
      refine wpAnyH_ready (rs := [7]) (by kernel_rfl) (by simp) ?_
      refine AllReadyH.cons rfl (fun K hK => ?_) AllReadyH.nil
      go_simp
      refine hK.out _ _ ⟨e0, e1⟩ (fun hHeld => ?_)
      clear hK K
      skip
      refine wpAnyH_ready (rs := [8]) (by kernel_rfl) (by simp) ?_
      refine AllReadyH.cons rfl (fun K hK => ?_) AllReadyH.nil
      go_simp
      refine hK.out _ _ ⟨?_, ?_⟩ (fun hHeld => ?_)
      · rw [World.cell?_setCell_other _ _ _ _ (fun e => h5 (by cases e; rfl))]; exact e0
      · rw [World.cell?_setCell_other _ _ _ _ (fun e => h6 (by cases e; rfl))]; exact e1
      clear hK K
      refine wpAnyH_done (by kernel_rfl) ?_ _
      go_end0
      exact HQ.out
  · have hx : te = x0 := by rw [← HTE.out, textErr, HR0.out]; simp only; rw [if_pos h0]
    exact ⟨rfl, .inr ⟨by rw [hx]; exact h0, by rw [hx], hR, hT.mono fun _ _ h => .inl h, hb⟩⟩

theorem rdText_eq (bs : List UInt8) (er : Int) (most : Nat) : rdText bs er most = outcome er (textErr bs most) bs ((rdU bs most).2.2.drop (rdU bs most).2.1) (.string ByteArray.empty) (.string ⟨((rdU bs most).2.2.take (rdU bs most).2.1).toArray⟩) := rfl

theorem text_enters (cap : Array Value) (w : World) : (callFunc 98 cap).run Tryd.prog w = .ok (.enter 98 cap) w := by kernel_rfl

set_option maxRecDepth 100000 in
set_option maxHeartbeats 400000 in
theorem text_any (p g : Nat) (bs : List UInt8) (er M : Int) (w : World) (h : Rd w p g bs er) (hM1 : M < 9223372036854775808) :
    Calls Tryd.prog 84 #[.pointer (some ⟨p, 0, none⟩), .int .i64 M] w (OutPost p g (rdText bs er (max M 0).toNat) w) := by
  have hmf : ∀ (fn : Fn) (first cap : Array Value) (w : World), (Instr.makeFunc fn first cap).run Tryd.prog w = .ok (.func fn first cap) w := fun _ _ _ _ => rfl
  have hp := h.lt
  have hgl := h.ltBytes
  obtain ⟨hr, hm, hn⟩ := heap_alloc2 w (.cells #[.pointer (some ⟨p, 0, none⟩)] 48) (.cells #[.int .i64 M] 3) (.cells #[.string ByteArray.empty] 9)
  have HM : Hid (Calls Tryd.prog 92 #[.pointer (some ⟨p, 0, none⟩), .func (.func 98) #[] #[.pointer (some ⟨w.heap.size, 0, none⟩), .pointer (some ⟨w.heap.size + 1, 0, none⟩), .pointer (some ⟨w.heap.size + 1 + 1, 0, none⟩)]]
      (((w.alloc (.cells #[.pointer (some ⟨p, 0, none⟩)] 48)).alloc (.cells #[.int .i64 M] 3)).alloc (.cells #[.string ByteArray.empty] 9)) (MidPost p g (w.heap.size + 1 + 1) 9 (outcome er (textErr bs (max M 0).toNat) bs ((rdU bs (max M 0).toNat).2.2.drop (rdU bs (max M 0).toNat).2.1) (.string ByteArray.empty) (.string ⟨((rdU bs (max M 0).toNat).2.2.take (rdU bs (max M 0).toNat).2.1).toArray⟩)) _)) :=
    mid_any p g (w.heap.size + 1 + 1) 9 er _ bs _ _ _ _ _ _ (((h.alloc _).alloc _).alloc _) (text_enters _) hn (by omega) (by omega) (fun e => by
      subst e
      exact text_in p g bs _ _ _ M _ ((((h.alloc _).alloc _).alloc _).alloc _) ⟨heap_alloc_old hr _, heap_alloc_old hm _, heap_alloc_old hn _⟩ (by omega) (by omega) (by omega) (by omega) (by omega) (by omega) hM1 _ rfl)
  have HW : Hid (Touch (· = p) w (((w.alloc (.cells #[.pointer (some ⟨p, 0, none⟩)] 48)).alloc (.cells #[.int .i64 M] 3)).alloc (.cells #[.string ByteArray.empty] 9))) := (((Touch.refl _ w).alloc _).alloc _).alloc _
  clear hr hm hn
  go_enter Tryd.func84, Tryd.ntmps84
  go_wp2_with fail
  refine HM.out.mono ?_
  intro e w1 hM
  rw [← rdText_eq] at hM
  obtain ⟨n, en⟩ : ∃ n : ByteArray, (rdText bs er (max M 0).toNat).2.1 = .string n := outcome_val (fun v => ∃ n : ByteArray, v = .string n) ⟨_, rfl⟩ ⟨_, rfl⟩
  obtain ⟨c2, z2, s2⟩ := hM.box
  have hQ := hM.out HW.out hp hgl (by omega)
  rw [en] at c2 hQ
  have HQ : Hid (OutPost p g (rdText bs er (max M 0).toNat) w (.returned (.string n)) (w1.setCell ⟨w.heap.size + 1 + 1, 0, none⟩ (.string n))) := hQ
  obtain ⟨rfl, _⟩ := hM
  clear HM HW hQ en
  go_wp2_with fail
  exact bodyPost_ret (v := .string n) (by simp [results, Tryd.results84, go_sem, World.cell?_setCell_same _ _ _ c2]) rfl HQ.out
end Go.Proofs.YtaihofkmcpcjeaaDoor
