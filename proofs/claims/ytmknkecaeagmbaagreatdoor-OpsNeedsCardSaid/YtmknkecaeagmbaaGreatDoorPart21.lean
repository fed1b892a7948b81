/- quirehelp.Ids of two slices of the same ids. -/
import Derived.Test.YtmknkecaeagmbaaGreatDoorRowD
import Derived.Test.YtmknkecaeagmbaaGreatDoorPart1
import Derived.Deep.LoopGhost
import Derived.Deep.DeepCutAuto
import Derived.BigQuiet
import Derived.Test.YtmknkecaeagmbaaGreatDoorPart5
import Derived.Deep.RegionHeld3
import Derived.Deep.MidRow
namespace Go.Proofs.YtmknkecaeagmbaaGreatDoor
open Go.RowKit Go.Maps
set_option linter.unusedVariables false
set_option linter.unusedSimpArgs false
set_option maxRecDepth 100000

set_option maxHeartbeats 4000000 in
theorem ids_same (l : List Ip) (v1 v2 : Value) (w : World) (h1 : SlD w v1 l) (h2 : SlD w v2 l) (hl : l.length ≤ 1073741824) : Calls Tryz.prog 24 #[v1, v2] w fun e w' => e = .returned (.bool true) ∧ Touch (fun _ => False) w w' := by
  obtain ⟨a1, c1, rfl, _⟩ := h1.shape
  obtain ⟨a2, c2, rfl, _⟩ := h2.shape
  have H1 : Hid (SlD w (.slice a1 l.length c1) l) := h1
  have H2 : Hid (SlD w (.slice a2 l.length c2) l) := h2
  clear h1 h2
  go_enter Tryz.func24, Tryz.ntmps24
  go_wp2_with fail
  go_loopg [5] l.length (fun gk s5 wx => ∃ i : Nat, i + gk = l.length ∧ s5 = .int .i64 (i : Int) ∧ Hid (Touch (fun _ => False) w wx))
  case atStart => exact ⟨0, by omega, rfl, Touch.refl _ _⟩
  case round =>
    obtain ⟨i, hig, rfl, HI⟩ := hrel
    obtain ⟨wx, hwx⟩ : ∃ wx, wx = wr := ⟨_, rfl⟩
    subst hwx
    by_cases hil : i < l.length
    · have i1 : (0 : Int) ≤ (i : Int) := by omega
      have i2 : (i : Int) < (l.length : Int) := by omega
      have hne : l ≠ [] := by rintro rfl; simp at hil
      obtain ⟨b3, o3, cp3, e3, _, _, hb3, hrow3⟩ := (H1.out.touch HI.out).row hne
      obtain ⟨b4, o4, cp4, e4, _, _, hb4, hrow4⟩ := (H2.out.touch HI.out).row hne
      obtain ⟨rfl, _, rfl⟩ : a1 = some ⟨b3, o3, none⟩ ∧ True ∧ c1 = cp3 := by simpa using e3
      obtain ⟨rfl, _, rfl⟩ : a2 = some ⟨b4, o4, none⟩ ∧ True ∧ c2 = cp4 := by simpa using e4
      obtain ⟨q0, q1⟩ := hrow3 i hil
      obtain ⟨r0, r1⟩ := hrow4 i hil
      clear hrow3 hrow4 e3 e4 hne H1 H2
      generalize l[i] = p at *
      obtain ⟨pc, pk⟩ := p
      simp only at q0 q1 r0 r1
      have n1 : (pc == pc) = true := by simp
      have n2 : (pk == pk) = true := by simp
      go_upto_region 6 with fail
      go_quiet (fail)
      have HT : Hid (Touch (fun _ => False) w (wx.drewN nq)) := HI.out.drewN nq
      go_wp2_with fail
      go_roundg (l.length - (i + 1))
      case measure => omega
      case rel => exact ⟨i + 1, by omega, by go_num, HT.out⟩
    · have i2 : ¬ (i : Int) < (l.length : Int) := by omega
      go_wp2_with fail
      go_ret
      exact ⟨rfl, HI.out⟩
end Go.Proofs.YtmknkecaeagmbaaGreatDoor

/- The document's Fits. -/
namespace Go.Proofs.YtmknkecaeagmbaaGreatDoor
open Go.RowKit
set_option linter.unusedVariables false
set_option linter.unusedSimpArgs false
set_option maxRecDepth 100000

def fitsB (a b : O) : Bool := (a.kind == 1) && ((b.kind == 1) && ((a.c == b.c) && (((a.rc == b.rc) && (a.rk == b.rk)) && ((b.k == endO a) && ((b.lc == a.c) && (b.lk == IntKind.u64.wrap (endO a - 1)))))))
theorem goesB_fits {a b : O} (h : a.k < endO a) : goesB a b = fitsB a b := by
  unfold goesB fitsB
  rw [Bool.eq_iff_iff]
  simp only [Bool.and_eq_true, beq_iff_eq, decide_eq_true_eq]
  constructor
  · rintro ⟨h1, h2, h3, ⟨h4, h5⟩, ⟨h6, h7⟩, h8, h9⟩
    exact ⟨h1, h2, h4.symm, ⟨h8.symm, h9.symm⟩, h5, h6, h7⟩
  · rintro ⟨h1, h2, h4, ⟨h8, h9⟩, h5, h6, h7⟩
    exact ⟨h1, h2, h, ⟨h4.symm, h5⟩, ⟨h6, h7⟩, h8.symm, h9.symm⟩
set_option maxHeartbeats 8000000 in
theorem ref_fits (a b : O) (hs : a.tx.size ≤ 17592186044416) (w : World) : Calls Tryz.prog 28 #[a.val, b.val] w fun e w' => e = .returned (.bool (fitsB a b)) ∧ Touch (fun _ => False) w w' := by
  have HL : Hid (∀ W, Touch (fun _ => False) w W → Calls Tryz.prog 13 #[a.val] W fun e w' => e = .returned (.int .i64 (lenO a : Int)) ∧ Touch (fun _ => False) W w') := fun W t => ref_lenO a hs W
  have hle := lenO_le a
  have hw1 : IntKind.u64.wrap (lenO a : Int) = (lenO a : Int) := wrap_u64_small _ (by omega) (by omega)
  have HE : Hid (endO a = IntKind.u64.wrap (a.k + (lenO a : Int))) := rfl
  clear hs hle
  obtain ⟨t1, e1⟩ : ∃ t1, (a.kind != 1) = t1 := ⟨_, rfl⟩
  obtain ⟨t2, e2⟩ : ∃ t2, (b.kind != 1) = t2 := ⟨_, rfl⟩
  obtain ⟨t3, e3⟩ : ∃ t3, (a.c != b.c) = t3 := ⟨_, rfl⟩
  obtain ⟨t4, e4⟩ : ∃ t4, (a.rc == b.rc) = t4 := ⟨_, rfl⟩
  obtain ⟨t5, e5⟩ : ∃ t5, (a.rk == b.rk) = t5 := ⟨_, rfl⟩
  obtain ⟨t6, e6⟩ : ∃ t6, (b.k == endO a) = t6 := ⟨_, rfl⟩
  obtain ⟨t7, e7⟩ : ∃ t7, (b.lc == a.c) = t7 := ⟨_, rfl⟩
  obtain ⟨t8, e8⟩ : ∃ t8, (b.lk == IntKind.u64.wrap (endO a - 1)) = t8 := ⟨_, rfl⟩
  have HG : Hid (fitsB a b = (!t1 && (!t2 && (!t3 && ((t4 && t5) && (t6 && (t7 && t8))))))) := by unfold fitsB Hid; rw [e4, e5, e6, e7, e8, ← e1, ← e2, ← e3]; simp [bne]
  go_enter Tryz.func28, Tryz.ntmps28
  go_upto_region 1 with fail
  obtain ⟨W0, hW0⟩ : ∃ W0, Hid (W0 = (w.alloc (opO a)).alloc (opO b)) := ⟨_, Eq.refl _⟩
  have HA0 : Hid (OpAt w.heap.size a W0.drew ∧ OpAt (w.heap.size + 1) b W0.drew) := by rw [hW0.out]; exact heap_two w _ _
  have HT0 : Hid (Touch (fun _ => False) w W0.drew) := by rw [hW0.out]; exact (((Touch.refl _ _).alloc _).alloc _).drew
  have HTT : Hid (Touch (fun _ => False) w W0) := by rw [hW0.out]; exact ((Touch.refl _ _).alloc _).alloc _
  rw [← hW0.out]
  have hA : OpAt w.heap.size a W0 := HA0.out.1
  have hB : OpAt (w.heap.size + 1) b W0 := HA0.out.2
  have p1 := hA.q2
  have p2 := hA.q6
  have p3 := hA.q7
  have p4 := hB.q2
  have p5 := hB.q6
  have p6 := hB.q7
  have p7 := hA.q0
  have p8 := hB.q0
  clear hW0 hA hB
  cases t1
  rotate_left
  · go_wp2_with fail
    go_ret
    exact ⟨by rw [HG.out]; first | rfl | simp, HTT.out⟩
  · skip
    cases t2
    rotate_left
    · go_wp2_with fail
      go_ret
      exact ⟨by rw [HG.out]; first | rfl | simp, HTT.out⟩
    · skip
      cases t3
      rotate_left
      · go_wp2_with fail
        go_ret
        exact ⟨by rw [HG.out]; first | rfl | simp, HTT.out⟩
      · skip
        cases t4
        · go_wp2_with fail
          go_ret
          exact ⟨by rw [HG.out]; first | rfl | simp, HTT.out⟩
        · skip
          cases t5
          · go_wp2_with fail
            go_ret
            exact ⟨by rw [HG.out]; first | rfl | simp, HTT.out⟩
          · skip
            go_upto_region 3 with fail
            refine wp_region_held_drew (S := OpAt w.heap.size a) (by kernel_rfl) HA0.out.1 (fun hHeld => ?_)
            refine wpAnyH_take (i := 0) (oi := { dst := some 30, op := Go.Op.fieldAddr 31 (Go.Operand.tmp 2) 0, type := 0, pos := "quireref8.go:109", after := #[], guard := none }) (v := .pointer (some ⟨w.heap.size, 0, none⟩)) rfl (by kernel_rfl) (by kernel_rfl) (by kernel_rfl) (fun _ _ _ h => h) (Or.inl ⟨by rfl, ?_⟩) hHeld ?_
            · intro w hSw; clear hSw; go_simp
            simp only [Act.put, List.setIfInBounds_toArray]
            refine wpAnyH_take (i := 1) (oi := { dst := some 31, op := Go.Op.fieldAddr 24 (Go.Operand.tmp 30) 1, type := 0, pos := "quireref8.go:109", after := #[{ on := 0, ground := Go.Ground.data }], guard := none }) (v := .pointer (some ⟨w.heap.size, 1, none⟩)) rfl (by kernel_rfl) (by kernel_rfl) (by kernel_rfl) (fun _ _ _ h => h) (Or.inl ⟨by rfl, ?_⟩) hHeld ?_
            · intro w hSw; clear hSw; go_simp
            simp only [Act.put, List.setIfInBounds_toArray]
            refine wpAnyH_take (i := 2) (oi := { dst := some 32, op := Go.Op.load 22 (Go.Operand.tmp 31), type := 22, pos := "quireref8.go:109", after := #[{ on := 1, ground := Go.Ground.data }], guard := none }) (v := .int .u64 a.k) rfl (by kernel_rfl) (by kernel_rfl) (by kernel_rfl) (fun _ _ _ h => h) (Or.inl ⟨by rfl, ?_⟩) hHeld ?_
            · intro w hSw; have hq := hSw.q1; clear hSw; go_simp
            simp only [Act.put, List.setIfInBounds_toArray]
            refine wpAnyH_take (i := 3) (oi := { dst := some 33, op := Go.Op.load 31 (Go.Operand.tmp 2), type := 31, pos := "quireref8.go:109", after := #[], guard := none }) (v := a.val) rfl (by kernel_rfl) (by kernel_rfl) (by kernel_rfl) (fun _ _ _ h => h) (yieldsIf_load_mid (by rfl) 31 (.tmp 2) rfl w.heap.size 0 rfl a.vals.toList _ (fun w hw => rangeAt_of hw) Tryz.underlying31 rfl (by kernel_rfl)) hHeld ?_
            simp only [Act.put, List.setIfInBounds_toArray]
            refine wpAnyH_ready (rs := [4]) (by kernel_rfl) (by simp) ?_
            refine AllReadyH.cons (o := { dst := some 34, op := Go.Op.call { callee := Go.Callee.value (Go.Operand.func 13), args := #[Go.Operand.tmp 33], argTypes := #[31] }, type := 3, pos := "quireref8.go:109", after := #[{ on := 3, ground := Go.Ground.data }], guard := none }) rfl (fun K hK => ?_) AllReadyH.nil
            go_simp
            refine (HL.out _ HT0.out).mono ?_
            rintro e w2 ⟨rfl, hT⟩
            have hS2 : OpAt w.heap.size a w2 := HA0.out.1.keep hT
            have HA2 : Hid (OpAt w.heap.size a w2 ∧ OpAt (w.heap.size + 1) b w2 ∧ Touch (fun _ => False) w w2) := ⟨HA0.out.1.keep hT, HA0.out.2.keep hT, HT0.out.trans hT⟩
            clear hT
            refine hK.out _ _ hS2 (fun hHeld => ?_)
            clear hK K hS2
            refine wpAnyH_take (i := 5) (oi := { dst := some 35, op := Go.Op.convert 3 22 (Go.Operand.tmp 34), type := 22, pos := "quireref8.go:109", after := #[{ on := 4, ground := Go.Ground.data }], guard := none }) (v := .int .u64 (lenO a : Int)) rfl (by kernel_rfl) (by kernel_rfl) (by kernel_rfl) (fun _ _ _ h => h) (Or.inl ⟨by rfl, ?_⟩) hHeld ?_
            · intro w hSw; clear hSw; go_simp
            simp only [Act.put, List.setIfInBounds_toArray]
            refine wpAnyH_take (i := 6) (oi := { dst := some 36, op := Go.Op.binOp Go.BinOp.add 22 (Go.Operand.tmp 32) (Go.Operand.tmp 35) 22, type := 22, pos := "quireref8.go:109", after := #[{ on := 2, ground := Go.Ground.data }, { on := 5, ground := Go.Ground.data }], guard := none }) (v := .int .u64 (IntKind.u64.wrap (a.k + (lenO a : Int)))) rfl (by kernel_rfl) (by kernel_rfl) (by kernel_rfl) (fun _ _ _ h => h) (Or.inl ⟨by rfl, ?_⟩) hHeld ?_
            · intro w hSw; clear hSw; go_simp
            simp only [Act.put, List.setIfInBounds_toArray]
            refine wpAnyH_take (i := 7) (oi := { dst := some 5, op := Go.Op.assign (Go.Operand.tmp 36), type := 22, pos := "quireref8.go:109", after := #[{ on := 6, ground := Go.Ground.data }, { on := 4, ground := Go.Ground.chain }, { on := 0, ground := Go.Ground.phase }, { on := 1, ground := Go.Ground.phase }, { on := 2, ground := Go.Ground.phase }, { on := 3, ground := Go.Ground.phase }, { on := 4, ground := Go.Ground.phase }, { on := 5, ground := Go.Ground.phase }, { on := 6, ground := Go.Ground.phase }], guard := none }) (v := .int .u64 (IntKind.u64.wrap (a.k + (lenO a : Int)))) rfl (by kernel_rfl) (by kernel_rfl) (by kernel_rfl) (fun _ _ _ h => h) (Or.inl ⟨by rfl, ?_⟩) hHeld ?_
            · intro w hSw; clear hSw; go_simp
            simp only [Act.put, List.setIfInBounds_toArray]
            refine wpAnyH_done (by kernel_rfl) ?_ _
            simp only [List.getElem_toArray, List.getElem_cons_succ, List.getElem_cons_zero, List.setIfInBounds_toArray, List.set_cons_succ, List.set_cons_zero]
            clear hHeld
            have q1 := HA2.out.1.q0
            have q4 := HA2.out.2.1.q1
            have q5 := HA2.out.2.1.q4
            have q6 := HA2.out.2.1.q5
            have HA9 : Hid (Touch (fun _ => False) w w2) := HA2.out.2.2
            clear HA2
            rw [HE.out] at e6 e8
            generalize IntKind.u64.wrap (a.k + (lenO a : Int)) = ea at *
            cases t6
            · go_wp2_with fail
              go_ret
              exact ⟨by rw [HG.out]; rfl, HA9.out⟩
            · skip
              cases t7
              · go_wp2_with fail
                go_ret
                exact ⟨by rw [HG.out]; rfl, HA9.out⟩
              · skip
                cases t8
                · go_wp2_with fail
                  go_ret
                  exact ⟨by rw [HG.out]; rfl, HA9.out⟩
                · skip
                  go_wp2_with fail
                  go_ret
                  exact ⟨by rw [HG.out]; rfl, HA9.out⟩
end Go.Proofs.YtmknkecaeagmbaaGreatDoor

/- The order of values is an order. It speaks of no program. -/
namespace Go.Proofs.YtmknkecaeagmbaaGreatDoor
open Go.RowKit
set_option linter.unusedVariables false

/-- Bytes as one of three: -1, 0, 1. -/
def lexI : List UInt8 → List UInt8 → Int
  | [], [] => 0
  | [], _ :: _ => -1
  | _ :: _, [] => 1
  | a :: x, b :: y => if a.toNat < b.toNat then -1 else if b.toNat < a.toNat then 1 else lexI x y
theorem lexI_spec (a b : List UInt8) : Op.bytesLess a b = decide (lexI a b = -1) ∧ (a == b) = decide (lexI a b = 0) ∧ (lexI a b = -1 ∨ lexI a b = 0 ∨ lexI a b = 1) := by
  induction a generalizing b with
  | nil => cases b <;> simp [Op.bytesLess, lexI]
  | cons x r ih =>
    cases b with
    | nil => simp [Op.bytesLess, lexI]
    | cons y s =>
      obtain ⟨h1, h2, h3⟩ := ih s
      simp only [Op.bytesLess]
      have hlt : (x < y) ↔ x.toNat < y.toNat := UInt8.lt_iff_toNat_lt
      have heq : (x = y) ↔ x.toNat = y.toNat := UInt8.toNat_inj.symm
      by_cases c1 : x.toNat < y.toNat
      · have e : lexI (x :: r) (y :: s) = -1 := by simp only [lexI]; rw [if_pos c1]
        have e1 : (decide (x < y)) = true := decide_eq_true (hlt.2 c1)
        have e2 : (x :: r == y :: s) = false := by
          rw [beq_eq_false_iff_ne]; intro e; cases e; omega
        rw [e, e1, e2]; simp
      · have e1 : (decide (x < y)) = false := decide_eq_false (fun h => c1 (hlt.1 h))
        by_cases c2 : y.toNat < x.toNat
        · have e : lexI (x :: r) (y :: s) = 1 := by simp only [lexI]; rw [if_neg c1, if_pos c2]
          have e2 : (x == y) = false := by rw [beq_eq_false_iff_ne]; intro e; rw [heq] at e; omega
          have e3 : (x :: r == y :: s) = false := by rw [beq_eq_false_iff_ne]; intro e; cases e; omega
          rw [e, e1, e2, e3]; simp
        · have e : lexI (x :: r) (y :: s) = lexI r s := by simp only [lexI]; rw [if_neg c1, if_neg c2]
          have e2 : x = y := heq.2 (by omega)
          subst e2
          have e3 : (x :: r == x :: s) = (r == s) := by simp
          rw [e, e1, e3, h1, h2]; simp [h3]
theorem refText_lex (a b : ByteArray) : refText a b = lexI a.toList b.toList := by
  obtain ⟨h1, h2, h3⟩ := lexI_spec a.toList b.toList
  unfold refText
  rw [h1, h2]
  rcases h3 with h | h | h <;> rw [h] <;> decide
theorem lexI_anti (a b : List UInt8) : lexI a b = -lexI b a := by
  induction a generalizing b with
  | nil => cases b <;> simp [lexI]
  | cons x r ih =>
    cases b with
    | nil => simp [lexI]
    | cons y s =>
      simp only [lexI]
      by_cases c1 : x.toNat < y.toNat
      · rw [if_pos c1, if_neg (by omega), if_pos c1]
      · rw [if_neg c1]
        by_cases c2 : y.toNat < x.toNat
        · rw [if_pos c2, if_pos c2]; rfl
        · rw [if_neg c2, if_neg c2, if_neg c1, ih]
theorem lexI_range (a b : List UInt8) : lexI a b = -1 ∨ lexI a b = 0 ∨ lexI a b = 1 := (lexI_spec a b).2.2
theorem lexI_trans (a b c : List UInt8) (h1 : lexI a b ≤ 0) (h2 : lexI b c ≤ 0) : lexI a c ≤ 0 ∧ (lexI a b = -1 ∨ lexI b c = -1 → lexI a c = -1) := by
  induction a generalizing b c with
  | nil =>
    cases c with
    | nil =>
      cases b with
      | nil => simp [lexI]
      | cons y s => simp [lexI] at h2
    | cons z t => simp [lexI]
  | cons x r ih =>
    cases b with
    | nil => simp [lexI] at h1
    | cons y s =>
      cases c with
      | nil => simp [lexI] at h2
      | cons z t =>
        simp only [lexI] at *
        by_cases c1 : x.toNat < y.toNat
        · by_cases c3 : y.toNat < z.toNat
          · rw [if_pos (show x.toNat < z.toNat by omega)]; simp
          · rw [if_neg c3] at h2
            by_cases c4 : z.toNat < y.toNat
            · rw [if_pos c4] at h2; omega
            · rw [if_pos (show x.toNat < z.toNat by omega)]; simp
        · rw [if_neg c1] at h1
          by_cases c2 : y.toNat < x.toNat
          · rw [if_pos c2] at h1; omega
          · rw [if_neg c2] at h1
            by_cases c3 : y.toNat < z.toNat
            · rw [if_pos (show x.toNat < z.toNat by omega)]; simp
            · rw [if_neg c3] at h2
              by_cases c4 : z.toNat < y.toNat
              · rw [if_pos c4] at h2; omega
              · rw [if_neg c4] at h2
                rw [if_neg c1, if_neg c2, if_neg c3, if_neg c4, if_neg (show ¬ x.toNat < z.toNat by omega), if_neg (show ¬ z.toNat < x.toNat by omega)]
                exact ih s t h1 h2

/-- Four questions, the first that parts. -/
theorem refCmp_cases (a b : V) : refCmp a b = if a.k < b.k then -1 else if b.k < a.k then 1 else if a.n < b.n then -1 else if b.n < a.n then 1 else if refOrder a.f < refOrder b.f then -1 else if refOrder b.f < refOrder a.f then 1 else lexI a.s.toList b.s.toList := by
  unfold refCmp refInts
  rw [refText_lex]
  by_cases c1 : a.k < b.k
  · simp [c1]
  by_cases c2 : b.k < a.k
  · simp [c1, c2]
  by_cases c3 : a.n < b.n
  · simp [c1, c2, c3]
  by_cases c4 : b.n < a.n
  · simp [c1, c2, c3, c4]
  by_cases c5 : refOrder a.f < refOrder b.f
  · simp [c1, c2, c3, c4, c5]
  by_cases c6 : refOrder b.f < refOrder a.f
  · simp [c1, c2, c3, c4, c5, c6]
  simp [c1, c2, c3, c4, c5, c6]
theorem refCmp_range (a b : V) : refCmp a b = -1 ∨ refCmp a b = 0 ∨ refCmp a b = 1 := by
  rw [refCmp_cases]
  have := lexI_range a.s.toList b.s.toList
  generalize lexI a.s.toList b.s.toList = l at *
  repeat' split
  all_goals omega
theorem refCmp_anti (a b : V) : refCmp a b = -refCmp b a := by
  rw [refCmp_cases, refCmp_cases b a, lexI_anti]
  generalize lexI b.s.toList a.s.toList = l
  repeat' split
  all_goals omega
theorem refCmp_self (a : V) : refCmp a a = 0 := by
  have := refCmp_anti a a; omega
theorem refCmp_trans (a b c : V) (h1 : refCmp a b ≤ 0) (h2 : refCmp b c ≤ 0) : refCmp a c ≤ 0 := by
  rw [refCmp_cases] at *
  have ht := lexI_trans a.s.toList b.s.toList c.s.toList
  generalize lexI a.s.toList b.s.toList = l1 at *
  generalize lexI b.s.toList c.s.toList = l2 at *
  generalize lexI a.s.toList c.s.toList = l3 at *
  generalize refOrder a.f = fa at *
  generalize refOrder b.f = fb at *
  generalize refOrder c.f = fc at *
  generalize a.k = ka at *
  generalize b.k = kb at *
  generalize c.k = kc at *
  generalize a.n = na at *
  generalize b.n = nb at *
  generalize c.n = nc at *
  by_cases x1 : ka < kc
  · rw [if_pos x1]; omega
  rw [if_neg x1]
  by_cases p1 : ka < kb
  · by_cases q1 : kb < kc
    · omega
    · rw [if_neg q1] at h2
      rw [if_pos (by omega)] at h2; omega
  rw [if_neg p1] at h1
  by_cases p2 : kb < ka
  · rw [if_pos p2] at h1; omega
  rw [if_neg p2] at h1
  obtain rfl : ka = kb := by omega
  rw [if_neg x1] at h2
  by_cases q2 : kc < ka
  · rw [if_pos q2] at h2; omega
  rw [if_neg q2] at h2 ⊢
  by_cases x3 : na < nc
  · rw [if_pos x3]; omega
  rw [if_neg x3]
  by_cases p3 : na < nb
  · by_cases q3 : nb < nc
    · omega
    · rw [if_neg q3] at h2
      rw [if_pos (by omega)] at h2; omega
  rw [if_neg p3] at h1
  by_cases p4 : nb < na
  · rw [if_pos p4] at h1; omega
  rw [if_neg p4] at h1
  obtain rfl : na = nb := by omega
  rw [if_neg x3] at h2
  by_cases q4 : nc < na
  · rw [if_pos q4] at h2; omega
  rw [if_neg q4] at h2 ⊢
  by_cases x5 : fa < fc
  · rw [if_pos x5]; omega
  rw [if_neg x5]
  by_cases p5 : fa < fb
  · by_cases q5 : fb < fc
    · omega
    · rw [if_neg q5] at h2
      rw [if_pos (by omega)] at h2; omega
  rw [if_neg p5] at h1
  by_cases p6 : fb < fa
  · rw [if_pos p6] at h1; omega
  rw [if_neg p6] at h1
  obtain rfl : fa = fb := by omega
  rw [if_neg x5] at h2
  by_cases q6 : fc < fa
  · rw [if_pos q6] at h2; omega
  rw [if_neg q6] at h2 ⊢
  exact (ht h1 h2).1
end Go.Proofs.YtmknkecaeagmbaaGreatDoor
