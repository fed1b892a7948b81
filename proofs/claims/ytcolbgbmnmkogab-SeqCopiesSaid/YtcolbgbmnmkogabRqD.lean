/- The document's tree of units (quireref9): within. -/
import Derived.Test.YtcolbgbmnmkogabRqC
import Derived.Test.YtcolbgbmnmkogabSeqB
namespace Go.Proofs.Ytcolbgbmnmkogab
open Go.RowKit
set_option linter.unusedVariables false
set_option linter.unusedSimpArgs false
set_option maxRecDepth 100000

set_option maxHeartbeats 8000000 in
theorem qwithin_any {w : World} {v : Value} {l : List Int} (h : SlJ w v l) (i : Nat) (hi : i ≤ l.length) (m : Int) (hlen : l.length ≤ 1073741820) :
    Calls Try.prog 42 #[v, iV (i : Int), iV m] w fun e w' => ∃ v', e = .returned v' ∧ NewJ w w' v' (l.take i ++ m :: l.drop i) := by
  obtain ⟨ao, cap, rfl, hno, hc1, hc2⟩ := h.shape
  have hit : (l.take i).length = i := by rw [List.length_take]; omega
  obtain ⟨_, _, e0, _, _, _, hLt⟩ := h.upto i hi
  obtain ⟨e1, -, e2⟩ : ao = _ ∧ _ ∧ cap = _ := by simpa only [Value.slice.injEq] using e0
  rw [← e1] at hLt
  clear e0 e1 e2
  obtain ⟨v1, w1, hr1, n1, -⟩ := (NewJ.nil w w (Touch.refl _ _)).app ao i cap (l.take i) hit.symm hno hLt (by simp; omega)
  rw [List.nil_append] at n1
  have n1d : NewJ w w1.drew v1 (l.take i) := n1.on ((Touch.refl _ _).drew)
  obtain ⟨v2, w2, hr2, n2, -⟩ := n1d.app1 m (by omega)
  have hd := (h.touch n2.touch).from i hi
  obtain ⟨bo, cap2, e3, hbno, -, -, hLd⟩ := hd
  obtain ⟨v3, w3, hr3, n3, -⟩ := n2.app bo _ cap2 (l.drop i) rfl hbno hLd (by simp; omega)
  rw [List.append_assoc, List.singleton_append] at n3
  have s1 := fun W => sliceJ_to ao l.length cap i (by omega) W
  have s2 := fun W => sliceJ_from ao l.length cap i hi W
  rw [e3] at s2
  have bz : ∀ W : World, (Instr.buildSlice 60 1 #[(0, iV m)]).run Try.prog W = .ok (.slice (some ⟨W.heap.size, 0, none⟩) 1 1) (W.alloc (jO m)) := fun W => by kernel_rfl
  have HF : Hid (NewJ w w3 v3 (l.take i ++ m :: l.drop i)) := n3
  have HR1 : Hid ((Builtin.append_ #[60, 60] 60 #[.slice none 0 0, .slice ao i cap]).run Try.prog w = .ok v1 w1) := hr1
  have HR2 : Hid ((Builtin.append_ #[60, 60] 60 #[v1, .slice (some ⟨w1.drew.heap.size, 0, none⟩) 1 1]).run Try.prog (w1.drew.alloc (jO m)) = .ok v2 w2) := hr2
  have HR3 : Hid ((Builtin.append_ #[60, 60] 60 #[v2, .slice bo (l.drop i).length cap2]).run Try.prog w2 = .ok v3 w3) := hr3
  generalize hL : l.take i ++ m :: l.drop i = L at *
  clear hL
  generalize (l.drop i).length = ld at *
  generalize l.length = n at *
  clear h hr1 hr2 hr3 n1 n1d n2 n3 hit hLt hLd hno hbno hlen hc1 hc2 e3 hi
  go_enter Try.func42, Try.ntmps42
  go_wp2_with (first | (at_builtin; refine wpList_append_runJ rfl _ _ rfl _ _ _ rfl rfl HR1.out ?_))
  refine wp_region_held_drew (S := fun _ : World => True) (by kernel_rfl) trivial (fun hHeld => ?_)
  refine wpAnyH_take (i := 0) (oi := { dst := some 12, op := Go.Op.move (Go.Operand.tmp 7), type := 60, pos := "quireref9.go:120", after := #[], guard := none }) (v := v1) rfl (by kernel_rfl) (by kernel_rfl) (by kernel_rfl) (fun _ _ _ h => h) (Or.inl ⟨by rfl, ?_⟩) hHeld ?_
  · intro w hSw; clear hSw; go_simp
  simp only [Act.put, List.setIfInBounds_toArray, List.set_cons_succ, List.set_cons_zero]
  refine wpAnyH_take (i := 1) (oi := { dst := some 13, op := Go.Op.move (Go.Operand.tmp 2), type := 3, pos := "quireref9.go:120", after := #[], guard := none }) (v := iV m) rfl (by kernel_rfl) (by kernel_rfl) (by kernel_rfl) (fun _ _ _ h => h) (Or.inl ⟨by rfl, ?_⟩) hHeld ?_
  · intro w hSw; clear hSw; go_simp
  simp only [Act.put, List.setIfInBounds_toArray, List.set_cons_succ, List.set_cons_zero]
  refine wpAnyH_take (i := 4) (oi := { dst := some 16, op := Go.Op.move (Go.Operand.tmp 0), type := 60, pos := "quireref9.go:120", after := #[], guard := none }) (v := .slice ao n cap) rfl (by kernel_rfl) (by kernel_rfl) (by kernel_rfl) (fun _ _ _ h => h) (Or.inl ⟨by rfl, ?_⟩) hHeld ?_
  · intro w hSw; clear hSw; go_simp
  simp only [Act.put, List.setIfInBounds_toArray, List.set_cons_succ, List.set_cons_zero]
  refine wpAnyH_take (i := 5) (oi := { dst := some 17, op := Go.Op.move (Go.Operand.tmp 1), type := 3, pos := "quireref9.go:120", after := #[], guard := none }) (v := iV (i : Int)) rfl (by kernel_rfl) (by kernel_rfl) (by kernel_rfl) (fun _ _ _ h => h) (Or.inl ⟨by rfl, ?_⟩) hHeld ?_
  · intro w hSw; clear hSw; go_simp
  simp only [Act.put, List.setIfInBounds_toArray, List.set_cons_succ, List.set_cons_zero]
  refine wpAnyH_take (i := 6) (oi := { dst := some 18, op := Go.Op.slice 60 (Go.Operand.tmp 16) (some (Go.Operand.tmp 17)) none none, type := 60, pos := "quireref9.go:120", after := #[{ on := 4, ground := Go.Ground.data }, { on := 5, ground := Go.Ground.data }], guard := none }) (v := .slice bo ld cap2) rfl (by kernel_rfl) (by kernel_rfl) (by kernel_rfl) (fun _ _ _ h => h) (Or.inl ⟨by rfl, ?_⟩) hHeld ?_
  · intro w hSw; clear hSw; go_simp
  simp only [Act.put, List.setIfInBounds_toArray, List.set_cons_succ, List.set_cons_zero]
  refine wpAnyH_ready (rs := [2]) (by kernel_rfl) (by simp) ?_
  refine (AllReadyH.cons (o := { dst := some 14, op := Go.Op.buildSlice 60 1 #[(0, Go.Operand.tmp 13)], type := 60, pos := "quireref9.go:120", after := #[{ on := 1, ground := Go.Ground.data }], guard := none }) rfl (fun K hK => ?_) AllReadyH.nil)
  go_simp
  refine hK.out _ _ trivial (fun hHeld => ?_)
  clear hK K
  try simp only [Act.put, List.setIfInBounds_toArray, List.set_cons_succ, List.set_cons_zero]
  refine wpAnyH_ready (rs := [3]) (by kernel_rfl) (by simp) ?_
  refine (AllReadyH.cons (o := { dst := some 15, op := Go.Op.call { callee := Go.Callee.builtin Go.Builtin.append, args := #[Go.Operand.tmp 12, Go.Operand.tmp 14], argTypes := #[60, 60] }, type := 60, pos := "quireref9.go:120", after := #[{ on := 0, ground := Go.Ground.data }, { on := 2, ground := Go.Ground.data }], guard := none }) rfl (fun K hK => ?_) AllReadyH.nil)
  refine step_append 60 (by rfl) _ _ rfl _ _ _ rfl rfl HR2.out ?_
  refine hK.out _ _ trivial (fun hHeld => ?_)
  clear hK K
  try simp only [Act.put, List.setIfInBounds_toArray, List.set_cons_succ, List.set_cons_zero]
  refine wpAnyH_ready (rs := [7]) (by kernel_rfl) (by simp) ?_
  refine (AllReadyH.cons (o := { dst := some 19, op := Go.Op.call { callee := Go.Callee.builtin Go.Builtin.append, args := #[Go.Operand.tmp 15, Go.Operand.tmp 18], argTypes := #[60, 60] }, type := 60, pos := "quireref9.go:120", after := #[{ on := 3, ground := Go.Ground.data }, { on := 6, ground := Go.Ground.data }, { on := 3, ground := Go.Ground.chain }], guard := none }) rfl (fun K hK => ?_) AllReadyH.nil)
  refine step_append 60 (by rfl) _ _ rfl _ _ _ rfl rfl HR3.out ?_
  refine hK.out _ _ trivial (fun hHeld => ?_)
  clear hK K
  try simp only [Act.put, List.setIfInBounds_toArray, List.set_cons_succ, List.set_cons_zero]
  refine wpAnyH_take (i := 8) (oi := { dst := some 6, op := Go.Op.assign (Go.Operand.tmp 19), type := 60, pos := "quireref9.go:120", after := #[{ on := 7, ground := Go.Ground.data }, { on := 7, ground := Go.Ground.chain }, { on := 0, ground := Go.Ground.phase }, { on := 1, ground := Go.Ground.phase }, { on := 2, ground := Go.Ground.phase }, { on := 3, ground := Go.Ground.phase }, { on := 4, ground := Go.Ground.phase }, { on := 5, ground := Go.Ground.phase }, { on := 6, ground := Go.Ground.phase }, { on := 7, ground := Go.Ground.phase }], guard := none }) (v := v3) rfl (by kernel_rfl) (by kernel_rfl) (by kernel_rfl) (fun _ _ _ h => h) (Or.inl ⟨by rfl, ?_⟩) hHeld ?_
  · intro w hSw; clear hSw; go_simp
  simp only [Act.put, List.setIfInBounds_toArray, List.set_cons_succ, List.set_cons_zero]
  refine wpAnyH_done (by kernel_rfl) ?_ _
  try simp only [List.getElem_toArray, List.getElem_cons_succ, List.getElem_cons_zero, List.setIfInBounds_toArray, List.set_cons_succ, List.set_cons_zero]
  go_wp2_with fail
  go_ret
  exact ⟨_, rfl, HF.out⟩
end Go.Proofs.Ytcolbgbmnmkogab
