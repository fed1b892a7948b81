/- ids.only's iterator over turns, for a caller that writes to blocks of its own meanwhile. -/
import Derived.Test.YtccgiabihagjoaaEachA
import Derived.Test.YtccgiabihagjoaaOnlyT
namespace Go.Proofs.Ytccgiabihagjoaa
open Go.RowKit Go.Shelf
set_option linter.unusedVariables false
set_option linter.unusedSimpArgs false
set_option maxRecDepth 100000
attribute [local go_sem] Oper.semAt_some

theorem KeepC.ofF {S : Nat → Prop} {W W' : World} (h : Touch (fun _ => False) W W') : KeepC S W W' := ⟨h.size, fun k c t fr e n => (h.block k (lt_of_heap e) id).trans e⟩
theorem KeepC.liesT {S : Nat → Prop} {W W' : World} (h : KeepC S W W') {ao : Option Addr} {l : List Tn} (hs : LiesT W ao l) (hn : ∀ b o, l ≠ [] → ao = some ⟨b, o, none⟩ → ¬ S b) : LiesT W' ao l := by
  by_cases hne : l = []
  · exact .inl hne
  rcases hs with h4 | ⟨b, o, rfl, hc⟩
  · exact .inl h4
  · refine .inr ⟨b, o, rfl, fun j u hu => ?_⟩
    have := hc j u hu
    cases hb : W.heap[b]? with
    | none => simp [World.cell?, hb] at this
    | some ob =>
      cases ob with
      | cells c t fr => rw [World.cell?_of_block (show W'.heap[b]? = W.heap[b]? from by rw [hb]; exact h.cells b c t fr hb (hn b o hne rfl))]; exact this
      | _ => simp [World.cell?, hb] at this
set_option maxHeartbeats 2000000 in
theorem onlyT_keeps (n Bl Br G : Nat) (S : Nat → Prop) (p : Tn → Bool) (ao : Option Addr) (cap : Nat) (l : List Tn) (w : World)
    (bl : w.heap[Bl]? = some (.cells #[.slice ao l.length cap] 22 (0, 0))) (br : w.heap[Br]? = some (.cells #[.func (.func G) #[] #[]] 46 (0, 0))) (hBl : ¬ S Bl) (hBr : ¬ S Br) (hL : LiesT w ao l) (hb : ∀ b o, l ≠ [] → ao = some ⟨b, o, none⟩ → ¬ S b) (hll : l.length ≤ 4611686018427387904)
    (eG : ∀ args w, (callFunc G args).run Try.prog w = .ok (.enter G args) w)
    (hp : ∀ r W, Calls Try.prog G #[tnV r] W fun e w' => e = .returned (.bool (p r)) ∧ Grows W w') :
    SeqStopsK Fence.wide n Try.prog 40 #[.pointer (some ⟨Bl, 0, none⟩), .pointer (some ⟨Br, 0, none⟩)] (fun r : Tn => #[tnV r]) (KeepC S) (fun xs => xs = l.filter p) (fun pre => pre <+: l.filter p) (l.filter p).length w := fun yl J Jx W hW hJ hJx hY h0 => by
  have kW : KeepC S w W := ⟨hW.size, fun k c t fr e _ => (hW.block k (lt_of_heap e)).trans e⟩
  have cl1 : W.cell? ⟨Bl, 0, none⟩ = some (.slice ao l.length cap) := by rw [cell_of_block (kW.cells Bl _ _ _ bl hBl)]; rfl
  have HJ : Hid (AbidesFrom W.heap.size J) := hJ
  have HY : Hid _ := hY
  have HP : Hid (∀ r W, Calls Try.prog G #[tnV r] W fun e w' => e = .returned (.bool (p r)) ∧ Grows W w') := hp
  have HL : Hid (∀ wr, KeepC S W wr → LiesT wr ao l ∧ wr.cell? ⟨Br, 0, none⟩ = some (.func (.func G) #[] #[])) := fun wr t => ⟨(kW.trans t).liesT hL hb, by rw [cell_of_block ((kW.trans t).cells Br _ _ _ br hBr)]; rfl⟩
  clear hJ hJx hY hp hL kW bl br hW
  refine callsIn_of_wp Try.func40 rfl trivial ?_ rfl
  simp only [Try.ntmps40, List.size_toArray, List.length_cons, List.length_nil, Nat.reduceAdd, Nat.reduceSub, Array.replicate_succ, Array.replicate_zero, List.push_toArray, List.append_toArray, List.nil_append, List.cons_append]
  gi_wp2_with fail
  gi_loopw [8] (fun i wr => ∃ j : Nat, i = .int .i64 (j : Int) ∧ j ≤ l.length ∧ KeepC S W wr ∧ J ((l.take j).filter p) wr) (fun i _ => (l.length - intOf i).toNat)
  case atStart => exact ⟨0, rfl, Nat.zero_le _, KeepC.ofF (Touch.refl _ _), by simpa using h0⟩
  case round =>
    obtain ⟨j, rfl, hj, hB, hJr⟩ := hrel
    by_cases hlt : j < l.length
    · have hne : l ≠ [] := by rintro rfl; simp at hlt
      obtain ⟨hLr, cr⟩ := HL.out wr hB
      obtain ⟨b, o, rfl⟩ : ∃ b o, ao = some ⟨b, o, none⟩ := by
        rcases hLr with h | ⟨b, o, e, _⟩
        · exact absurd h hne
        · exact ⟨b, o, e⟩
      obtain ⟨c0, c1, c2, c3⟩ := hLr.cells j hlt
      have HE : Hid (l.take (j + 1) = l.take j ++ [l[j]]) := List.take_succ_eq_append_getElem hlt
      have HPj := fun W => HP.out l[j] W
      have HDrop : Hid (l.take (j + 1) <+: l) := List.take_prefix _ _
      clear HP hLr hb hne
      generalize hx : l[j] = x at *
      clear hx
      have cr2 := (HL.out (wr.alloc (tnO x)) (hB.trans (KeepC.ofF ((Touch.refl _ wr).alloc _)))).2
      gi_wp2
      refine ⟨trivial, wide1, (callsIn_wide.2 (HPj _)).mono ?_⟩
      rintro e W1 ⟨rfl, hG⟩
      have hT := hG.touch
      have bx : (wr.alloc (tnO x)).heap[wr.heap.size]? = some (tnO x) := heap_alloc_new wr _
      have bx1 : W1.heap[wr.heap.size]? = some (tnO x) := (hT.block _ (lt_of_heap bx) id).trans bx
      have d0 : W1.cell? ⟨wr.heap.size, 0, none⟩ = some (.int .u64 x.c) := by rw [cell_of_block bx1]; rfl
      have d1 : W1.cell? ⟨wr.heap.size, 1, none⟩ = some (.int .u64 x.f) := by rw [cell_of_block bx1]; rfl
      have d2 : W1.cell? ⟨wr.heap.size, 2, none⟩ = some (.int .u64 x.t) := by rw [cell_of_block bx1]; rfl
      have d3 : W1.cell? ⟨wr.heap.size, 3, none⟩ = some (.int .u64 x.n) := by rw [cell_of_block bx1]; rfl
      have hT1 : Touch (fun _ => False) wr W1 := ((Touch.refl _ wr).alloc _).trans hT
      have hB1 : KeepC S W W1 := hB.trans (KeepC.ofF hT1)
      have hJ1 : J ((l.take j).filter p) W1 := HJ.out _ _ _ none hJr hT1.grownNone (fun r e => by cases e)
      have HF : Hid ((l.take (j + 1)).filter p <+: l.filter p) := HDrop.out.filter p
      clear hT hG bx bx1 hT1 cr cr2 c0 c1 c2 HDrop c3
      cases hpx : p x with
      | false =>
        have HE2 : Hid ((l.take (j + 1)).filter p = (l.take j).filter p) := by rw [Hid, HE.out, List.filter_append]; simp [hpx]
        clear hpx
        gi_wp2
        refine ⟨(fun _ h => by cases h), ?_⟩
        gi_wp2
        go_roundw
        case rel => exact ⟨j + 1, by go_num, by omega, hB1, by rw [HE2.out]; exact hJ1⟩
        case measure => simp [intOf]; omega
      | true =>
        have HE2 : Hid ((l.take (j + 1)).filter p = (l.take j).filter p ++ [x]) := by rw [Hid, HE.out, List.filter_append]; simp [hpx]
        have hlen : ((l.take j).filter p).length < (l.filter p).length := by
          have := HF.out.length_le
          rw [HE2.out, List.length_append] at this
          simp only [List.length_singleton] at this; omega
        clear hpx
        obtain ⟨fn, tmps, assign, body, hy, hR⟩ := HY.out _ x W1 hJ1 hlen
        clear hlen
        gi_wp2
        refine ⟨wide1, hR.mono ?_⟩
        rintro e W3 (⟨rfl, hJ3, hk3⟩ | ⟨rfl, hJx3⟩)
        · clear hy hR
          gi_wp2
          go_roundw
          case rel => exact ⟨j + 1, by go_num, by omega, hB1.trans hk3, by rw [HE2.out]; exact hJ3⟩
          case measure => simp [intOf]; omega
        · gi_wp2
          refine bodyPost_ret (results_none rfl _ _ _) rfl ?_
          exact ⟨⟨_, rfl⟩, .inr ⟨_, by rw [← HE2.out]; exact HF.out, hJx3⟩⟩
    · have hjl : j = l.length := by omega
      subst hjl
      rw [List.take_length] at hJr
      gi_wp2
      go_end0
      exact ⟨⟨_, rfl⟩, .inl ⟨_, rfl, hJr⟩⟩
end Go.Proofs.Ytccgiabihagjoaa
