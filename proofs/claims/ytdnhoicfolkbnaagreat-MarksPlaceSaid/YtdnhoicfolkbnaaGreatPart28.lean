/- The document's tree of units (quireref9): find, place, Find, Len. -/
import Derived.Test.YtdnhoicfolkbnaaGreatPart27
import Derived.Test.YtdnhoicfolkbnaaGreatPart8
import Derived.BigRegion
import Derived.BigQuiet
import Derived.Test.YtdnhoicfolkbnaaGreatPart11
namespace Go.Proofs.YtdnhoicfolkbnaaGreat
open Go.RowKit
set_option linter.unusedVariables false
set_option linter.unusedSimpArgs false
set_option maxRecDepth 100000

theorem RS.find_none {r : RS} {c k : Int} (h : ∀ i, i < r.l.length → isId c k (r.nd i) = false) : r.find c k = -1 := by
  have : r.l.findIdx? (isId c k) = none := by
    rw [List.findIdx?_eq_none_iff]
    intro x hx
    obtain ⟨i, hi, rfl⟩ := List.mem_iff_getElem.1 hx
    rw [← RS.nd_of hi]; exact h i hi
  unfold RS.find
  rw [this]; rfl
theorem RS.find_some {r : RS} {c k : Int} {j : Nat} (hj : j < r.l.length) (h : ∀ i, i < j → isId c k (r.nd i) = false) (hk : isId c k (r.nd j) = true) : r.find c k = (j : Int) := by
  have : r.l.findIdx? (isId c k) = some j := by
    rw [List.findIdx?_eq_some_iff_getElem]
    refine ⟨hj, by rw [← RS.nd_of hj]; exact hk, fun i hi => ?_⟩
    rw [← RS.nd_of (by omega)]
    simp [h i hi]
  unfold RS.find
  rw [this]; rfl
theorem RS.place_none {r : RS} {n : Int} (h : ∀ i (hi : i < r.order.length), (((r.order[i] : Nat) : Int) == n) = false) : r.place n = -1 := by
  have : r.order.findIdx? (fun x : Nat => (Int.ofNat x == n)) = none := by
    rw [List.findIdx?_eq_none_iff]
    intro x hx
    obtain ⟨i, hi, rfl⟩ := List.mem_iff_getElem.1 hx
    exact h i hi
  unfold RS.place
  rw [this]; rfl
theorem RS.place_some {r : RS} {n : Int} {j : Nat} (hj : j < r.order.length) (h : ∀ i (hi : i < r.order.length), i < j → (((r.order[i] : Nat) : Int) == n) = false) (hk : (((r.order[j] : Nat) : Int) == n) = true) : r.place n = (j : Int) := by
  have : r.order.findIdx? (fun x : Nat => (Int.ofNat x == n)) = some j := by
    rw [List.findIdx?_eq_some_iff_getElem]
    refine ⟨hj, hk, fun i hi => ?_⟩
    have := h i (by omega) hi
    simpa using this
  unfold RS.place
  rw [this]; rfl
theorem RS.find_lt {r : RS} (c k : Int) : -1 ≤ r.find c k ∧ r.find c k < r.l.length := by
  unfold RS.find
  cases h : r.l.findIdx? (isId c k) with
  | none => simp [idxI]; omega
  | some i =>
    have := (List.findIdx?_eq_some_iff_getElem.1 h).1
    simp [idxI]; omega
theorem RS.place_lt {r : RS} (n : Int) : -1 ≤ r.place n ∧ r.place n < r.order.length ∨ r.place n = -1 := by
  unfold RS.place
  cases h : r.order.findIdx? (fun x : Nat => (Int.ofNat x == n)) with
  | none => right; rfl
  | some i =>
    have := (List.findIdx?_eq_some_iff_getElem.1 h).1
    left; simp [idxI]; omega
set_option maxHeartbeats 8000000 in
theorem qlen_any {w : World} {b : Nat} {r : RS} (h : RqAt w b r) :
    Calls Tryz.prog 18 #[qP b] w fun e w' => e = .returned (iV (r.order.length : Int)) ∧ w' = w := by
  obtain ⟨v, h1, h2⟩ := h.ord
  obtain ⟨ao, cap, rfl, -⟩ := h2.nums
  clear h h2
  generalize r.order.length = n at *
  go_enter Tryz.func18, Tryz.ntmps18
  go_wp2_with fail
  go_ret
  exact ⟨rfl, rfl⟩
set_option maxHeartbeats 8000000 in
theorem qfind_any {w : World} {b : Nat} {r : RS} (h : RqAt w b r) (c k : Int) (hl : r.l.length ≤ 1073741824) :
    Calls Tryz.prog 60 #[qP b, idV c k] w fun e w' => e = .returned (iV (r.find c k)) ∧ Touch (fun _ => False) w w' := by
  obtain ⟨E, hE⟩ : ∃ E, Hid (E = w.alloc (idO c k)) := ⟨_, Eq.refl _⟩
  have HT : Hid (Touch (fun _ => False) w E) := by rw [hE.out]; exact (Touch.refl _ _).alloc _
  have HB : Hid (∀ W, Touch (fun _ => False) E W → W.cell? ⟨w.heap.size, 0, none⟩ = some (u64 c) ∧ W.cell? ⟨w.heap.size, 1, none⟩ = some (u64 k)) := fun W t => idO_cells (heap_keep t (by rw [hE.out]; exact heap_alloc_new w _))
  have HN : Hid ((∀ i, i < r.l.length → isId c k (r.nd i) = false) → r.find c k = -1) := RS.find_none
  have HS : Hid (∀ j, j < r.l.length → (∀ i, i < j → isId c k (r.nd i) = false) → isId c k (r.nd j) = true → r.find c k = (j : Int)) := fun j a b c => RS.find_some a b c
  have HC : Hid (∀ W, Touch (fun _ => False) E W → ∃ ao cap, W.cell? ⟨b, 0, none⟩ = some (.slice ao r.l.length cap) ∧ (0 < r.l.length → ∃ g, ao = some ⟨g, 0, none⟩ ∧ ∀ i, i < r.l.length → W.cell? ⟨g, i * 10, none⟩ = some (u64 (r.nd i).u.c) ∧ W.cell? ⟨g, i * 10 + 1, none⟩ = some (u64 (r.nd i).u.k))) := fun W t => by
    obtain ⟨ao, cap, h1, h2⟩ := (h.keep (HT.out.trans t)).nodes
    refine ⟨ao, cap, h1, fun h0 => ?_⟩
    obtain ⟨g, e, h3⟩ := h2 h0
    exact ⟨g, e, fun i hi => ⟨(h3 i hi).c0, (h3 i hi).c1⟩⟩
  clear h
  generalize r.find c k = res at *
  generalize hn : r.l.length = n at *
  clear hn
  go_enter Tryz.func60, Tryz.ntmps60
  go_upto_region 1 with fail
  rw [← hE.out]
  clear hE
  generalize w.heap.size = B0 at *
  go_wp2_with fail
  go_loopw [5] (fun i wr => ∃ j : Nat, i = .int .i64 (j : Int) ∧ j ≤ n ∧ Hid ((∀ i, i < j → isId c k (r.nd i) = false) ∧ Touch (fun _ => False) E wr)) (fun i _ => (n - intOf i).toNat)
  case atStart => exact ⟨0, rfl, Nat.zero_le _, (fun i hi => absurd hi (Nat.not_lt_zero _)), Touch.refl _ _⟩
  case round =>
    obtain ⟨j, rfl, hj, HJ⟩ := hrel
    obtain ⟨ao, cap, q1, q2⟩ := HC.out _ HJ.out.2
    obtain ⟨b0, b1⟩ := HB.out _ HJ.out.2
    by_cases hlt : j < n
    · obtain ⟨g, rfl, q3⟩ := q2 (by omega)
      obtain ⟨c0, c1⟩ := q3 j hlt
      clear q2 q3
      have HI : Hid (isId c k (r.nd j) = ((r.nd j).u.c == c && (r.nd j).u.k == k)) := Eq.refl _
      have l0 : (j : Int) < (n : Int) := by omega
      generalize (r.nd j).u.c = uc at *
      generalize (r.nd j).u.k = uk at *
      cases e1 : (uc == c) with
      | false =>
        have HF : Hid (isId c k (r.nd j) = false) := by rw [HI.out, e1]; rfl
        clear HI
        go_wp2_with fail
        go_quiet (fail)
        go_wp2_with fail
        refine ⟨⟨j + 1, by go_num, by omega, fun i hi => ?_, ?_⟩, by simp [intOf]; omega⟩
        · rcases Nat.lt_or_ge i j with x | x
          · exact HJ.out.1 i x
          · rw [show i = j from by omega]; exact HF.out
        · exact HJ.out.2.drewN _
      | true =>
        cases e2 : (uk == k) with
        | false =>
          have HF : Hid (isId c k (r.nd j) = false) := by rw [HI.out, e1, e2]; rfl
          clear HI
          go_wp2_with fail
          go_quiet (fail)
          go_wp2_with fail
          refine ⟨⟨j + 1, by go_num, by omega, fun i hi => ?_, ?_⟩, by simp [intOf]; omega⟩
          · rcases Nat.lt_or_ge i j with x | x
            · exact HJ.out.1 i x
            · rw [show i = j from by omega]; exact HF.out
          · exact HJ.out.2.drewN _
        | true =>
          have HF : Hid (res = (j : Int)) := HS.out j hlt HJ.out.1 (by rw [HI.out, e1, e2]; rfl)
          clear HI
          go_wp2_with fail
          go_quiet (fail)
          go_wp2_with fail
          go_ret
          exact ⟨congrArg (fun x => Ending.returned (iV x)) HF.out.symm, (HT.out.trans HJ.out.2).drewN _⟩
    · have hjn : j = n := by omega
      subst hjn
      have HF : Hid (res = -1) := HN.out HJ.out.1
      clear q2
      go_wp2_with fail
      go_ret
      exact ⟨congrArg (fun x => Ending.returned (iV x)) HF.out.symm, HT.out.trans HJ.out.2⟩
set_option maxHeartbeats 8000000 in
theorem qplace_any {w : World} {b : Nat} {r : RS} (h : RqAt w b r) (m : Int) (hl : r.order.length ≤ 1073741824) :
    Calls Tryz.prog 61 #[qP b, iV m] w fun e w' => e = .returned (iV (r.place m)) ∧ w' = w := by
  have HN : Hid ((∀ i (hi : i < r.order.length), (((r.order[i] : Nat) : Int) == m) = false) → r.place m = -1) := RS.place_none
  have HS : Hid (∀ j (hj : j < r.order.length), (∀ i (hi : i < r.order.length), i < j → (((r.order[i] : Nat) : Int) == m) = false) → (((r.order[j] : Nat) : Int) == m) = true → r.place m = (j : Int)) := fun j a b c => RS.place_some a b c
  obtain ⟨v, q1, h2⟩ := h.ord
  obtain ⟨ao, cap, rfl, q2⟩ := h2.nums
  clear h h2
  generalize r.place m = res at *
  generalize r.order = L at *
  obtain ⟨n, hn⟩ : ∃ n, Hid (n = L.length) := ⟨_, Eq.refl _⟩
  rw [← hn.out] at q1 hl
  go_enter Tryz.func61, Tryz.ntmps61
  go_wp2_with fail
  go_loopw [5] (fun i wr => ∃ j : Nat, i = .int .i64 (j : Int) ∧ j ≤ n ∧ wr = w ∧ Hid (∀ i (hi : i < L.length), i < j → (((L[i] : Nat) : Int) == m) = false)) (fun i _ => (n - intOf i).toNat)
  case atStart => exact ⟨0, rfl, Nat.zero_le _, rfl, fun i hi h => absurd h (Nat.not_lt_zero _)⟩
  case round =>
    obtain ⟨j, rfl, hj, hwr, HJ⟩ := hrel
    rw [hwr]
    clear hwr
    by_cases hlt : j < n
    · have hlt' : j < L.length := by rw [← hn.out]; exact hlt
      obtain ⟨g, o, rfl, q3⟩ := q2 (by omega)
      have c0 := q3 j hlt'
      clear q2 q3
      have HI := HS.out j hlt' HJ.out
      have HX : Hid (∀ i (hi : i < L.length), i = j → ((L[i] : Nat) : Int) = ((L[j] : Nat) : Int)) := fun i hi e => by subst e; rfl
      have l0 : (j : Int) < (n : Int) := by omega
      generalize L[j] = x at *
      cases e1 : ((x : Int) == m) with
      | false =>
        clear HI
        go_wp2_with fail
        refine ⟨⟨j + 1, by go_num, by omega, trivial, fun i hi h => ?_⟩, by simp [intOf]; omega⟩
        rcases Nat.lt_or_ge i j with y | y
        · exact HJ.out i hi y
        · rw [HX.out i hi (by omega)]; exact e1
      | true =>
        have HF : Hid (res = (j : Int)) := HI e1
        clear HI
        go_wp2_with fail
        go_ret
        exact ⟨congrArg (fun x => Ending.returned (iV x)) HF.out.symm, rfl⟩
    · have hjn : j = n := by omega
      have HF : Hid (res = -1) := HN.out fun i hi => HJ.out i hi (by rw [hjn, hn.out]; exact hi)
      subst hjn
      clear q2
      go_wp2_with fail
      go_ret
      exact ⟨congrArg (fun x => Ending.returned (iV x)) HF.out.symm, rfl⟩
set_option maxHeartbeats 8000000 in
theorem qfindP_any {w : World} {b : Nat} {r : RS} (h : RqAt w b r) (c k : Int) (hl : r.l.length ≤ 1073741824) (ho : r.order.length ≤ 1073741824) :
    Calls Tryz.prog 37 #[qP b, idV c k] w fun e w' => e = .returned (iV (r.findP c k)) ∧ Touch (fun _ => False) w w' := by
  obtain ⟨E, hE⟩ : ∃ E, Hid (E = w.alloc (idO c k)) := ⟨_, Eq.refl _⟩
  have HT : Hid (Touch (fun _ => False) w E) := by rw [hE.out]; exact (Touch.refl _ _).alloc _
  have hB := idO_cells (W := E) (n := w.heap.size) (c := c) (k := k) (by rw [hE.out]; exact heap_alloc_new w _)
  obtain ⟨b0, b1⟩ := hB
  have HF : Hid (Calls Tryz.prog 60 #[qP b, .agg #[u64 c, u64 k]] E fun e w' => e = .returned (iV (r.find c k)) ∧ Touch (fun _ => False) E w') := qfind_any (h.keep HT.out) c k hl
  have HP : Hid (∀ W, Touch (fun _ => False) E W → Calls Tryz.prog 61 #[qP b, iV (r.find c k)] W fun e w' => e = .returned (iV (r.place (r.find c k))) ∧ w' = W) := fun W t => qplace_any (h.keep (HT.out.trans t)) _ ho
  unfold RS.findP
  clear h
  generalize r.place (r.find c k) = pl at *
  generalize r.find c k = fd at *
  obtain ⟨res, hres⟩ : ∃ x, Hid (x = if fd < 0 then -1 else pl) := ⟨_, Eq.refl _⟩
  rw [← hres.out]
  go_enter Tryz.func37, Tryz.ntmps37
  go_upto_region 1 with fail
  rw [← hE.out]
  clear hE
  generalize w.heap.size = B0 at *
  go_wp2_with fail
  refine HF.out.mono ?_
  rintro e W1 ⟨rfl, t1⟩
  have HT1 : Hid (Touch (fun _ => False) E W1) := t1
  clear t1 HF
  by_cases hlt : fd < 0
  · have HR : Hid (res = -1) := by rw [hres.out]; exact if_pos hlt
    go_wp2_with fail
    go_ret
    exact ⟨congrArg (fun x => Ending.returned (iV x)) HR.out.symm, HT.out.trans HT1.out⟩
  · have HR : Hid (res = pl) := by rw [hres.out]; exact if_neg hlt
    go_wp2_with fail
    refine (HP.out _ HT1.out).mono ?_
    rintro e w2 ⟨rfl, hw⟩
    rw [hw]
    clear hw
    go_wp2_with fail
    go_ret
    exact ⟨congrArg (fun x => Ending.returned (iV x)) HR.out.symm, HT.out.trans HT1.out⟩
end Go.Proofs.YtdnhoicfolkbnaaGreat

/- The document's tree of units (quireref9): within. -/
namespace Go.Proofs.YtdnhoicfolkbnaaGreat
open Go.RowKit
set_option linter.unusedVariables false
set_option linter.unusedSimpArgs false
set_option maxRecDepth 100000

set_option maxHeartbeats 8000000 in
theorem qwithin_any {w : World} {v : Value} {l : List Int} (h : SlJ w v l) (i : Nat) (hi : i ≤ l.length) (m : Int) (hlen : l.length ≤ 1073741820) :
    Calls Tryz.prog 62 #[v, iV (i : Int), iV m] w fun e w' => ∃ v', e = .returned v' ∧ NewJ w w' v' (l.take i ++ m :: l.drop i) := by
  obtain ⟨ao, cap, rfl, hno, hc1, hc2⟩ := h.shape
  have hit : (l.take i).length = i := by rw [List.length_take]; omega
  obtain ⟨_, _, e0, _, _, _, hLt⟩ := h.upto i hi
  obtain ⟨e1, -, e2⟩ : ao = _ ∧ _ ∧ cap = _ := by simpa only [Value.slice.injEq] using e0
  rw [← e1] at hLt
  clear e0 e1 e2
  obtain ⟨v1, w1, hr1, n1, -⟩ := (NewJ.nil w w (Touch.refl _ _)).app ao i cap (l.take i) hit.symm hno hLt (by simp; omega)
  rw [List.nil_append] at n1
  have n1d : NewJ w w1.drew v1 (l.take i) := n1.on ((Touch.refl _ _).drew)
  obtain ⟨v2, w2, hr2, n2, -⟩ := n1d.app1 m (by omega)
  have hd := (h.touch n2.touch).from i hi
  obtain ⟨bo, cap2, e3, hbno, -, -, hLd⟩ := hd
  obtain ⟨v3, w3, hr3, n3, -⟩ := n2.app bo _ cap2 (l.drop i) rfl hbno hLd (by simp; omega)
  rw [List.append_assoc, List.singleton_append] at n3
  have s1 := fun W => sliceJ_to ao l.length cap i (by omega) W
  have s2 := fun W => sliceJ_from ao l.length cap i hi W
  rw [e3] at s2
  have bz : ∀ W : World, (Instr.buildSlice 73 1 #[(0, iV m)]).run Tryz.prog W = .ok (.slice (some ⟨W.heap.size, 0, none⟩) 1 1) (W.alloc (jO m)) := fun W => by kernel_rfl
  have HF : Hid (NewJ w w3 v3 (l.take i ++ m :: l.drop i)) := n3
  have HR1 : Hid ((Builtin.append_ #[73, 73] 73 #[.slice none 0 0, .slice ao i cap]).run Tryz.prog w = .ok v1 w1) := hr1
  have HR2 : Hid ((Builtin.append_ #[73, 73] 73 #[v1, .slice (some ⟨w1.drew.heap.size, 0, none⟩) 1 1]).run Tryz.prog (w1.drew.alloc (jO m)) = .ok v2 w2) := hr2
  have HR3 : Hid ((Builtin.append_ #[73, 73] 73 #[v2, .slice bo (l.drop i).length cap2]).run Tryz.prog w2 = .ok v3 w3) := hr3
  generalize hL : l.take i ++ m :: l.drop i = L at *
  clear hL
  generalize (l.drop i).length = ld at *
  generalize l.length = n at *
  clear h hr1 hr2 hr3 n1 n1d n2 n3 hit hLt hLd hno hbno hlen hc1 hc2 e3 hi
  go_enter Tryz.func62, Tryz.ntmps62
  go_wp2_with (first | (at_builtin; refine wpList_append_runJ rfl _ _ rfl _ _ _ rfl rfl HR1.out ?_))
  refine wp_region_held_drew (S := fun _ : World => True) (by kernel_rfl) trivial (fun hHeld => ?_)
  refine wpAnyH_take (i := 0) (oi := { dst := some 12, op := Go.Op.move (Go.Operand.tmp 7), type := 73, pos := "quireref9.go:120", after := #[], guard := none }) (v := v1) rfl (by kernel_rfl) (by kernel_rfl) (by kernel_rfl) (fun _ _ _ h => h) (Or.inl ⟨by rfl, ?_⟩) hHeld ?_
  · intro w hSw; clear hSw; go_simp
  simp only [Act.put, List.setIfInBounds_toArray, List.set_cons_succ, List.set_cons_zero]
  refine wpAnyH_take (i := 1) (oi := { dst := some 13, op := Go.Op.move (Go.Operand.tmp 2), type := 3, pos := "quireref9.go:120", after := #[], guard := none }) (v := iV m) rfl (by kernel_rfl) (by kernel_rfl) (by kernel_rfl) (fun _ _ _ h => h) (Or.inl ⟨by rfl, ?_⟩) hHeld ?_
  · intro w hSw; clear hSw; go_simp
  simp only [Act.put, List.setIfInBounds_toArray, List.set_cons_succ, List.set_cons_zero]
  refine wpAnyH_take (i := 4) (oi := { dst := some 16, op := Go.Op.move (Go.Operand.tmp 0), type := 73, pos := "quireref9.go:120", after := #[], guard := none }) (v := .slice ao n cap) rfl (by kernel_rfl) (by kernel_rfl) (by kernel_rfl) (fun _ _ _ h => h) (Or.inl ⟨by rfl, ?_⟩) hHeld ?_
  · intro w hSw; clear hSw; go_simp
  simp only [Act.put, List.setIfInBounds_toArray, List.set_cons_succ, List.set_cons_zero]
  refine wpAnyH_take (i := 5) (oi := { dst := some 17, op := Go.Op.move (Go.Operand.tmp 1), type := 3, pos := "quireref9.go:120", after := #[], guard := none }) (v := iV (i : Int)) rfl (by kernel_rfl) (by kernel_rfl) (by kernel_rfl) (fun _ _ _ h => h) (Or.inl ⟨by rfl, ?_⟩) hHeld ?_
  · intro w hSw; clear hSw; go_simp
  simp only [Act.put, List.setIfInBounds_toArray, List.set_cons_succ, List.set_cons_zero]
  refine wpAnyH_take (i := 6) (oi := { dst := some 18, op := Go.Op.slice 73 (Go.Operand.tmp 16) (some (Go.Operand.tmp 17)) none none, type := 73, pos := "quireref9.go:120", after := #[{ on := 4, ground := Go.Ground.data }, { on := 5, ground := Go.Ground.data }], guard := none }) (v := .slice bo ld cap2) rfl (by kernel_rfl) (by kernel_rfl) (by kernel_rfl) (fun _ _ _ h => h) (Or.inl ⟨by rfl, ?_⟩) hHeld ?_
  · intro w hSw; clear hSw; go_simp
  simp only [Act.put, List.setIfInBounds_toArray, List.set_cons_succ, List.set_cons_zero]
  refine wpAnyH_ready (rs := [2]) (by kernel_rfl) (by simp) ?_
  refine (AllReadyH.cons (o := { dst := some 14, op := Go.Op.buildSlice 73 1 #[(0, Go.Operand.tmp 13)], type := 73, pos := "quireref9.go:120", after := #[{ on := 1, ground := Go.Ground.data }], guard := none }) rfl (fun K hK => ?_) AllReadyH.nil)
  go_simp
  refine hK.out _ _ trivial (fun hHeld => ?_)
  clear hK K
  try simp only [Act.put, List.setIfInBounds_toArray, List.set_cons_succ, List.set_cons_zero]
  refine wpAnyH_ready (rs := [3]) (by kernel_rfl) (by simp) ?_
  refine (AllReadyH.cons (o := { dst := some 15, op := Go.Op.call { callee := Go.Callee.builtin Go.Builtin.append, args := #[Go.Operand.tmp 12, Go.Operand.tmp 14], argTypes := #[73, 73] }, type := 73, pos := "quireref9.go:120", after := #[{ on := 0, ground := Go.Ground.data }, { on := 2, ground := Go.Ground.data }], guard := none }) rfl (fun K hK => ?_) AllReadyH.nil)
  refine step_append 73 (by rfl) _ _ rfl _ _ _ rfl rfl HR2.out ?_
  refine hK.out _ _ trivial (fun hHeld => ?_)
  clear hK K
  try simp only [Act.put, List.setIfInBounds_toArray, List.set_cons_succ, List.set_cons_zero]
  refine wpAnyH_ready (rs := [7]) (by kernel_rfl) (by simp) ?_
  refine (AllReadyH.cons (o := { dst := some 19, op := Go.Op.call { callee := Go.Callee.builtin Go.Builtin.append, args := #[Go.Operand.tmp 15, Go.Operand.tmp 18], argTypes := #[73, 73] }, type := 73, pos := "quireref9.go:120", after := #[{ on := 3, ground := Go.Ground.data }, { on := 6, ground := Go.Ground.data }, { on := 3, ground := Go.Ground.chain }], guard := none }) rfl (fun K hK => ?_) AllReadyH.nil)
  refine step_append 73 (by rfl) _ _ rfl _ _ _ rfl rfl HR3.out ?_
  refine hK.out _ _ trivial (fun hHeld => ?_)
  clear hK K
  try simp only [Act.put, List.setIfInBounds_toArray, List.set_cons_succ, List.set_cons_zero]
  refine wpAnyH_take (i := 8) (oi := { dst := some 6, op := Go.Op.assign (Go.Operand.tmp 19), type := 73, pos := "quireref9.go:120", after := #[{ on := 7, ground := Go.Ground.data }, { on := 7, ground := Go.Ground.chain }, { on := 0, ground := Go.Ground.phase }, { on := 1, ground := Go.Ground.phase }, { on := 2, ground := Go.Ground.phase }, { on := 3, ground := Go.Ground.phase }, { on := 4, ground := Go.Ground.phase }, { on := 5, ground := Go.Ground.phase }, { on := 6, ground := Go.Ground.phase }, { on := 7, ground := Go.Ground.phase }], guard := none }) (v := v3) rfl (by kernel_rfl) (by kernel_rfl) (by kernel_rfl) (fun _ _ _ h => h) (Or.inl ⟨by rfl, ?_⟩) hHeld ?_
  · intro w hSw; clear hSw; go_simp
  simp only [Act.put, List.setIfInBounds_toArray, List.set_cons_succ, List.set_cons_zero]
  refine wpAnyH_done (by kernel_rfl) ?_ _
  try simp only [List.getElem_toArray, List.getElem_cons_succ, List.getElem_cons_zero, List.setIfInBounds_toArray, List.set_cons_succ, List.set_cons_zero]
  go_wp2_with fail
  go_ret
  exact ⟨_, rfl, HF.out⟩
end Go.Proofs.YtdnhoicfolkbnaaGreat
