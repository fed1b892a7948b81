/- The contract of the document's drop. -/
import Derived.Test.YtfmpbkdmcgkeoaaRefP
import Derived.Deep.RegionLaw
namespace Go.Proofs.Ytfmpbkdmcgkeoaa
open Go.RowKit Go.Maps
set_option linter.unusedVariables false

def rdrop (k : Key) (l : List RFl) : List RFl := if ris k l then l.take (ridx k l) ++ l.drop (ridx k l + 1) else l
theorem ris_lt {k : Key} {l : List RFl} (h : ris k l = true) : ridx k l < l.length := by
  unfold ris at h
  rcases Nat.lt_or_ge (ridx k l) l.length with x | x
  · exact x
  · rw [List.getElem?_eq_none x] at h; cases h
section
variable {w : World} {r : Nat} {v : Value} {l : List RFl} {room power : Int}
set_option maxRecDepth 100000 in
set_option maxHeartbeats 1600000 in
theorem rdrop_any (h : RCore w r v l room power) (k : ByteArray) (hk : k.size ≤ 281474976710656) (hl : l.length ≤ 1073741823) :
    Calls Try.prog 46 #[rp r, .string k] w fun e w' => e = .returned (.tuple #[]) ∧ (∃ v', RCore w' r v' (rdrop k.data.toList l) room power ∧ ∀ k, v'.ownBlock = some k → v.ownBlock = some k ∨ w.heap.size ≤ k) ∧ Touch (fun k => k = r) w w' := by
  obtain ⟨i, hi⟩ : ∃ i, i = ridx k.data.toList l := ⟨_, rfl⟩
  have HAt : Hid (Calls Try.prog 40 #[rp r, .string k] w fun e w' => e = .returned (.tuple #[.int .i64 (i : Int), .bool (ris k.data.toList l)]) ∧ Touch (fun _ => False) w w') := by
    rw [hi]; exact rat_any h k hk (by omega)
  cases hb : ris k.data.toList l with
  | false =>
    rw [hb] at HAt
    have HQ : Hid (∀ w', Touch (fun _ => False) w w' → (∃ v', RCore w' r v' (rdrop k.data.toList l) room power ∧ ∀ k, v'.ownBlock = some k → v.ownBlock = some k ∨ w.heap.size ≤ k) ∧ Touch (fun k => k = r) w w') := by
      intro w' t
      unfold rdrop
      rw [hb, if_neg (by decide)]
      exact ⟨⟨v, h.touch t, fun _ e => .inl e⟩, t.mono fun _ _ e => e.elim⟩
    clear h hb hi
    go_enter Try.func46, Try.ntmps46
    go_wp2_with fail
    refine HAt.out.mono ?_
    rintro e w1 ⟨rfl, t1⟩
    have H1 := HQ.out _ t1
    have H2 : Hid ((∃ v', RCore w1 r v' (rdrop k.data.toList l) room power ∧ ∀ k, v'.ownBlock = some k → v.ownBlock = some k ∨ w.heap.size ≤ k) ∧ Touch (fun k => k = r) w w1) := H1
    clear H1 t1
    go_wp2_with fail
    go_end0
    exact ⟨rfl, H2.out⟩
  | true =>
    rw [hb] at HAt
    have hil : i < l.length := by rw [hi]; exact ris_lt hb
    have HD : Hid (rdrop k.data.toList l = l.take i ++ l.drop (i + 1)) := by unfold rdrop; rw [Hid, hb, if_pos rfl, hi]
    clear hb hi
    go_enter Try.func46, Try.ntmps46
    go_wp2_with fail
    refine HAt.out.mono ?_
    rintro e w1 ⟨rfl, t1⟩
    have hC1 : RCore w1 r v l room power := h.touch t1
    obtain ⟨vo, cap, rfl, hno, hlc, hcm, hLt, hLd⟩ := hC1.lies
    have td : Touch (fun _ => False) w1 w1.drew := (Touch.refl _ w1).drew
    have n0 : NewRow w1 w1.drew (.slice none 0 0) [] := ⟨World.ownsRow_nil _ _ _ _, td, fun k hk => by simp [Value.ownBlock] at hk⟩
    have hit : (l.take i).length = i := by simp; omega
    obtain ⟨va, wA, ra1, na1⟩ := n0.app vo i cap (l.take i) hit.symm hno ((hLt i).touch td) (by simp; omega)
    rw [List.nil_append] at na1
    have hno2 : (if cap = i + 1 then vo else vo.map (·.add ((i + 1) * 3))) = none → cap - (i + 1) = 0 := by
      intro e
      by_cases hcj : cap = i + 1
      · omega
      · rw [if_neg hcj, Option.map_eq_none_iff] at e
        have := hno e; omega
    obtain ⟨v3, w3, hr3, n3⟩ := na1.app _ (l.length - (i + 1)) (cap - (i + 1)) (l.drop (i + 1)) (by simp) hno2 ((hLd (i + 1) (by omega)).touch na1.2.1) (by simp; omega)
    rw [← HD.out] at n3
    have hv3 : ∃ ro rc, v3 = .slice ro (rdrop k.data.toList l).length rc := by
      rcases n3.1.2 with ⟨e, h0⟩ | ⟨g, cp, cur, e, _⟩
      · exact ⟨none, 0, by rw [e, h0]⟩
      · exact ⟨_, _, e⟩
    obtain ⟨ro, rc, rfl⟩ := hv3
    have hok : ∀ x ∈ rdrop k.data.toList l, RFOk w1 r x := by
      intro x hx
      rw [HD.out] at hx
      rcases List.mem_append.1 hx with hx | hx
      · exact hC1.ok x (List.mem_of_mem_take hx)
      · exact hC1.ok x (List.mem_of_mem_drop hx)
    have HQ : Hid (RCore (w3.setCell ⟨r, 0, none⟩ (.slice ro (rdrop k.data.toList l).length rc)) r (.slice ro (rdrop k.data.toList l).length rc) (rdrop k.data.toList l) room power ∧ Touch (fun k => k = r) w (w3.setCell ⟨r, 0, none⟩ (.slice ro (rdrop k.data.toList l).length rc))) :=
      ⟨hC1.relaid n3 hok, ((t1.trans n3.2.1).mono fun _ _ e => e.elim).setCell _ _ fun _ => rfl⟩
    have HNb : Hid (∀ k', (Value.slice ro (rdrop k.data.toList l).length rc).ownBlock = some k' → w.heap.size ≤ k') := fun k' hk' => by
      have := n3.2.2 k' hk'
      have := t1.size
      omega
    have k0 : w1.drew.cell? ⟨r, 0, none⟩ = some (.slice vo l.length cap) := hC1.c0
    have hrA : wA.heap[r]? = _ := (na1.2.1.block r (lt_of_heap hC1.cells) id).trans hC1.cells
    have hr3c : w3.heap[r]? = _ := (n3.2.1.block r (lt_of_heap hC1.cells) id).trans hC1.cells
    have kA : wA.cell? ⟨r, 0, none⟩ = some (.slice vo l.length cap) := by rw [cell_of_block hrA]; rfl
    have k3 : w3.cell? ⟨r, 0, none⟩ = some (.slice vo l.length cap) := by rw [cell_of_block hr3c]; rfl
    have f3 := free_of_block (i := 0) hr3c
    have hsl := fun W => sliceF_to vo l.length cap i (by omega) W
    have hsl3 : ∀ W, (Instr.slice 61 (.slice vo l.length cap) (some (.int .i64 ((i : Int) + 1))) none none).run Try.prog W = .ok (.slice (if cap = i + 1 then vo else vo.map (·.add ((i + 1) * 3))) (l.length - (i + 1)) (cap - (i + 1))) W := fun W => by
      have := sliceF_from vo l.length cap (i + 1) (by omega) W
      rw [show ((i + 1 : Nat) : Int) = (i : Int) + 1 from by omega] at this; exact this
    have hwr : IntKind.i64.wrap ((i : Int) + 1) = (i : Int) + 1 := by rw [IntKind.wrap_i64]; omega
    clear h hC1 t1 hLt hLd td n0 na1 n3 hok hit hno hno2 hrA hr3c HAt HD
    generalize (if cap = i + 1 then vo else vo.map (·.add ((i + 1) * 3))) = ao at *
    generalize (rdrop k.data.toList l).length = N at *
    generalize l.length - (i + 1) = n1 at *
    generalize cap - (i + 1) = c1 at *
    go_wp2_with fail
    go_region_law (first | (refine step_append_runF (by rfl) _ _ rfl _ _ _ rfl rfl ra1 ?_) | (refine step_append_runF (by rfl) _ _ rfl _ _ _ rfl rfl hr3 ?_))
    all_goals (try go_wp2_with fail)
    all_goals (go_end0; exact ⟨rfl, ⟨_, HQ.out.1, fun k' e => .inr (HNb.out k' e)⟩, HQ.out.2⟩)
end
end Go.Proofs.Ytfmpbkdmcgkeoaa
