/- The document's Join of a row of texts: its chunks. -/
import Derived.Test.YtphcnjbiojdalaaGreatDoorPart20
import Derived.Test.YtphcnjbiojdalaaGreatDoorPart21
import Derived.Test.YtphcnjbiojdalaaGreatDoorRChk1
import Derived.Test.YtphcnjbiojdalaaGreatDoorChkEq
import Derived.Test.YtphcnjbiojdalaaGreatDoorPart18
import Derived.Deep.RegionHeld3
import Derived.Deep.MidRow
namespace Go.Proofs.YtphcnjbiojdalaaGreatDoor
open Go.RowKit Go.Maps
set_option linter.unusedVariables false
set_option linter.unusedSimpArgs false
set_option maxRecDepth 100000

theorem ite_of_pos {c : Prop} [Decidable c] {X Y : Prop} (hc : c) (h : X) : if c then X else Y := by rw [if_pos hc]; exact h
theorem NewP.rangeOf {W w : World} {l : List O} {g n cap : Nat} (h : NewP W w (.slice (some ⟨g, 0, none⟩) n cap) l) (hn : l.length = n) (q : Nat) (hq : q < l.length) : w.rangeAt g (0 + q * 22) l[q].vals.toList := by
  obtain ⟨b, o', cap', e, _, _, hr'⟩ := h.sl.row (by intro e; rw [e] at hq; cases hq)
  simp only [Value.slice.injEq, Option.some.injEq, Addr.mk.injEq] at e
  obtain ⟨⟨rfl, rfl, _⟩, _, _⟩ := e
  exact hr' q hq
theorem NewP.thereOf {W w : World} {l : List O} {g n cap : Nat} (h : NewP W w (.slice (some ⟨g, 0, none⟩) n cap) l) (hn : l.length = n) (q : Nat) (hq : q < l.length) (x : O) : w.there g (0 + q * 22) x.vals.size := fun i hi => by
  refine ⟨?_, h.free (by rw [hn]) (by omega) _⟩
  have hi' : i < l[q].vals.toList.length := hi
  rw [h.rangeOf hn q hq i _ (List.getElem?_eq_getElem hi')]
  rfl
theorem NewP.some {W w : World} {l : List O} {ao : Option Addr} {n cap : Nat} (h : NewP W w (.slice ao n cap) l) (hn : l.length = n) (h1 : 1 ≤ n) : ∃ G, ao = some ⟨G, 0, none⟩ ∧ W.heap.size ≤ G := by
  rcases h.owns.2 with ⟨e, h0⟩ | ⟨G, cap, cur, e, hb, hg, q1, q2, q3, q4⟩
  · omega
  · simp only [Value.slice.injEq] at e
    exact ⟨G, e.1, h.fresh G (by rw [e.1]; rfl)⟩
/-- An id out of an operation's cells. -/
theorem p7_ids {W : World} {b o j : Nat} {R : List Nat} (h : W.rangeAt b o (p7 j R).vals.toList) : W.rangeAt b o [.int .u64 7, .int .u64 (1 + (j : Int))] := by
  have bk := base7_k j
  have e1 : (p7 j R).c = 7 := bk.2.1
  have e2 : (p7 j R).k = 1 + (j : Int) := bk.1
  intro q v hq
  match q, hq with
  | 0, hq =>
    have := h 0 (.int .u64 (p7 j R).c) rfl
    rw [e1] at this
    simpa using hq ▸ this
  | 1, hq =>
    have := h 1 (.int .u64 (p7 j R).k) rfl
    rw [e2] at this
    simpa using hq ▸ this
  | q + 2, hq => simp at hq
def row1 (R : List Nat) (i : Nat) : List O := if i = 0 then [] else [p7 0 (rep7 R i)]
set_option maxHeartbeats 16000000 in
theorem rjoin7 (R : List Nat) (ho : ∀ r ∈ R, okRune r) (h1 : 1 ≤ R.length) (h2 : R.length ≤ 4096) (n : Nat) (hn : 1 ≤ n) (hN : (n + 1) * R.length ≤ 30000) (hn2 : n ≤ 1000) (v : Value) (w : World) (hsl : SlP w v (rows7 R 0 n)) :
    Calls Tryz.prog 30 #[v] w fun e w' => ∃ v', e = .returned v' ∧ NewP w w' v' (chunks 8 a7 (rep7 R n)) := by
  have hmul : ∀ j, j ≤ n → j * R.length ≤ n * R.length := fun j hj => Nat.mul_le_mul_right _ hj
  have hN' : n * R.length + R.length ≤ 30000 := by rw [← Nat.succ_mul]; exact hN
  have hne : rows7 R 0 n ≠ [] := by intro e; have := rows7_len R 0 n; rw [e] at this; simp at this; omega
  obtain ⟨b, o, cap, hv, hcap, hcm, hrow⟩ := hsl.row hne
  rw [rows7_len] at hv hcap
  subst hv
  have hblt : b < w.heap.size := by
    have := hrow 0 (by rw [rows7_len]; omega) 0 _ rfl
    exact World.block_lt_of_cell? _ _ this
  have HRW : Hid (∀ (W : World), Touch (fun _ => False) w W → ∀ j, j < n → W.rangeAt b (o + j * 22) (p7 (j * R.length) R).vals.toList) := fun W t j h i u hu => by
    rw [World.cell?_of_block (t.block _ hblt id)]
    have hj : j < (rows7 R 0 n).length := by rw [rows7_len]; exact h
    have hr := hrow j hj i u
    rw [rows7_get, Nat.zero_add] at hr
    exact hr hu
  have HCK : Hid (∀ (W : World) j, j < n → Calls Tryz.prog 12 #[(p7 (j * R.length) R).val] W fun e w' => e = .returned (.int .i64 0) ∧ Touch (fun _ => False) W w') := fun W j h => by
    have h7 : Ok7 (j * R.length) R := ⟨ho, h1, h2, by have := hmul j (by omega); omega⟩
    have hs := p7_small h7
    have := rchk_k1 (p7 (j * R.length) R) (base7_k _).2.2 ⟨by omega, by omega, by omega⟩ W
    rw [← chk_eq _ (p7_fits _ _ h7.ii) (by omega), p7_check h7] at this
    exact this
  have HLS : Hid (∀ (W : World) j i, j < i → Calls Tryz.prog 56 #[.agg #[.int .u64 7, .int .u64 (1 + ((j * R.length : Nat) : Int))], .agg #[.int .u64 7, .int .u64 (1 + ((i * R.length : Nat) : Int))]] W fun e w' => e = .returned (.bool true) ∧ Touch (fun _ => False) W w') := fun W j i h => by
    refine (rless_any 7 _ 7 _ W).mono ?_
    rintro e w' ⟨rfl, rfl⟩
    have hm : j * R.length + R.length ≤ i * R.length := by rw [← Nat.succ_mul]; exact Nat.mul_le_mul_right _ h
    refine ⟨?_, ((Touch.refl _ _).alloc _).alloc _⟩
    have : lessI 7 (1 + ((j * R.length : Nat) : Int)) 7 (1 + ((i * R.length : Nat) : Int)) = true := by
      unfold lessI
      rw [if_pos rfl]
      exact decide_eq_true (by omega)
    rw [this]
  have HFT : Hid (∀ (W : World) i, 1 ≤ i → i < n → Calls Tryz.prog 28 #[(p7 0 (rep7 R i)).val, (p7 (i * R.length) R).val] W fun e w' => e = .returned (.bool true) ∧ Touch (fun _ => False) W w') := fun W i hi hin => by
    have hz : (p7 0 (rep7 R i)).tx.size ≤ 17592186044416 := by
      have h3 : (p7 0 (rep7 R i)).tx.size = (encAll (rep7 R i)).length := strOf_size _
      have h4 := encAll_len (rep7 R i)
      have h5 := rep7_len R i
      have := hmul i (by omega)
      omega
    have := ref_fits (p7 0 (rep7 R i)) (p7 (i * R.length) R) hz W
    rw [fits7 ho h1 i hi (by rw [Nat.succ_mul]; have := hmul i (by omega); omega)] at this
    exact this
  have HSZ : Hid (∀ i, i < n → (p7 0 (rep7 R i)).tx.size + (p7 (i * R.length) R).tx.size ≤ 9223372036854775807) := fun i hi => by
    have h3 : (p7 0 (rep7 R i)).tx.size = (encAll (rep7 R i)).length := strOf_size _
    have h4 := encAll_len (rep7 R i)
    have h5 := rep7_len R i
    have h6 : (p7 (i * R.length) R).tx.size = (encAll R).length := strOf_size _
    have h7 := encAll_len R
    have := hmul i (by omega)
    omega
  have HZR : Hid ((p7 0 (rep7 R n)).tx.size ≤ 1000000) := by
    have h3 : (p7 0 (rep7 R n)).tx.size = (encAll (rep7 R n)).length := strOf_size _
    have h4 := encAll_len (rep7 R n)
    have h5 := rep7_len R n
    show _ ≤ _
    omega
  have HLN : Hid (∀ (W : World), Calls Tryz.prog 13 #[(p7 0 (rep7 R n)).val] W fun e w' => e = .returned (.int .i64 ((n * R.length : Nat) : Int)) ∧ Touch (fun _ => False) W w') := fun W => by
    have := ref_lenO (p7 0 (rep7 R n)) (by have := HZR.out; omega) W
    rw [(p7_len 0 (rep7_ok ho n)).2, rep7_len] at this
    exact this
  have HCU : Hid (∀ (W : World) (i j : Nat), i < j → j ≤ n * R.length → Calls Tryz.prog 15 #[(p7 0 (rep7 R n)).val, .int .i64 (i : Int), .int .i64 (j : Int)] W fun e w' => (∃ ok, e = .returned (.tuple #[(p7 i (((rep7 R n).take j).drop i)).val, .bool ok])) ∧ Touch (fun _ => False) W w') := fun W i j h h' => by
    have h5 := rep7_len R n
    have := ref_cutO (p7 0 (rep7 R n)) (i : Int) (j : Int) (by have := HZR.out; omega) W
    rw [cut7 (rep7_ok ho n) i j h (by omega) (by omega)] at this
    exact this.mono (by rintro e w' ⟨rfl, t⟩; exact ⟨⟨_, rfl⟩, t⟩)
  have hbs : ∀ (x : O) (W : World), (Instr.buildSlice 45 1 #[(0, x.val)]).run Tryz.prog W = .ok (.slice (some ⟨W.heap.size, 0, none⟩) 1 1) (W.alloc (opO x)) := run_build1
  have hz0 : opO zeroO = .cells #[.int .u64 0, .int .u64 0, .int .i64 0, .int .u64 0, .int .u64 0, .int .u64 0, .int .u64 0, .int .u64 0, .string ⟨#[]⟩, .int .i64 0, .int .i64 0, .float .f64 0, .string ⟨#[]⟩, .string ⟨#[]⟩, .int .u64 0, .int .u64 0, .int .u64 0, .int .u64 0, .bool false, .int .u64 0, .int .u64 0, .bool false] 31 := by kernel_rfl
  have hbz : ∀ (W : World), (Instr.buildSlice 45 1 #[(0, .agg #[.int .u64 0, .int .u64 0, .int .i64 0, .int .u64 0, .int .u64 0, .int .u64 0, .int .u64 0, .int .u64 0, .string ⟨#[]⟩, .int .i64 0, .int .i64 0, .float .f64 0, .string ⟨#[]⟩, .string ⟨#[]⟩, .int .u64 0, .int .u64 0, .int .u64 0, .int .u64 0, .bool false, .int .u64 0, .int .u64 0, .bool false])]).run Tryz.prog W = .ok (.slice (some ⟨W.heap.size, 0, none⟩) 1 1) (W.alloc (.cells #[.int .u64 0, .int .u64 0, .int .i64 0, .int .u64 0, .int .u64 0, .int .u64 0, .int .u64 0, .int .u64 0, .string ⟨#[]⟩, .int .i64 0, .int .i64 0, .float .f64 0, .string ⟨#[]⟩, .string ⟨#[]⟩, .int .u64 0, .int .u64 0, .int .u64 0, .int .u64 0, .bool false, .int .u64 0, .int .u64 0, .bool false] 31)) := fun W => by
    have := run_build1 zeroO W
    rw [hz0] at this
    exact this
  have HJ : Hid (∀ r ∈ rep7 R n, okRune r) := rep7_ok ho n
  have hFl := rep7_len R n
  clear hrow hcap hcm hblt hsl hne hN
  go_enter Tryz.func30, Tryz.ntmps30
  go_wp2_with fail
  go_loopg [3, 4] n (fun gk s3 s4 wx => ∃ (i : Nat) (ao : Option Addr) (cp : Nat), i + gk = n ∧ s3 = .slice ao i cp ∧ s4 = .int .i64 (i : Int) ∧ Hid (NewP w wx (.slice ao i cp) (rows7 R 0 i)))
  case atStart => exact ⟨0, none, 0, by omega, rfl, rfl, NewP.nil _ _ (Touch.refl _ _)⟩
  case round =>
    obtain ⟨i, ao, cp, hig, rfl, rfl, HI⟩ := hrel
    obtain ⟨X0, hX0⟩ : ∃ X, X = wr := ⟨_, rfl⟩
    subst hX0
    by_cases hil : i < n
    · have i1 : (i : Int) < (n : Int) := by omega
      have i0 : (0 : Int) ≤ (i : Int) := by omega
      obtain ⟨x, hx⟩ : ∃ x, Hid (x = p7 (i * R.length) R) := ⟨_, Eq.refl _⟩
      have HRX : Hid (∀ W, Touch (fun _ => False) w W → W.rangeAt b (o + i * 22) x.vals.toList) := fun W t => by rw [hx.out]; exact HRW.out W t i hil
      have HCX : Hid (∀ W, Calls Tryz.prog 12 #[x.val] W fun e w' => e = .returned (.int .i64 0) ∧ Touch (fun _ => False) W w') := fun W => by rw [hx.out]; exact HCK.out W i hil
      go_upto_region 5 with fail
      refine wp_region_lit ?_
      refine wpList_plain rfl fun K hK => ?_
      go_simp
      refine hK _ _ ?_
      clear hK K
      refine wpList_plain rfl fun K hK => ?_
      go_simp
      refine hK _ _ ?_
      clear hK K
      refine wpList_plain rfl fun K hK => ?_
      go_simp
      refine hK _ _ ?_
      clear hK K
      refine wpList_load_mid rfl 31 (.tmp 24) rfl b (o + i * 22) rfl x.vals.toList _ (HRX.out _ HI.out.touch) Tryz.underlying31 rfl (by kernel_rfl) ?_
      simp only [Act.put, List.setIfInBounds_toArray, List.set_cons_succ, List.set_cons_zero]
      refine wpList_plain rfl fun K hK => ?_
      go_simp
      refine (HCX.out _).mono ?_
      rintro e X1 ⟨rfl, t1⟩
      have HI1 : Hid (NewP w X1 (.slice ao i cp) (rows7 R 0 i)) := HI.out.on t1
      clear t1 HI
      refine hK _ _ ?_
      clear hK K
      go_wp2_with fail
      go_loopg [5] i (fun gk s5 wx => ∃ (a : Nat), a + gk = i ∧ s5 = .int .i64 (a : Int) ∧ Hid (Touch (fun _ => False) X1 wx))
      case atStart => exact ⟨0, by omega, rfl, Touch.refl _ _⟩
      case round =>
        obtain ⟨a, hag, rfl, HT⟩ := hrel
        obtain ⟨Y0, hY0⟩ : ∃ X, X = wr := ⟨_, rfl⟩
        subst hY0
        by_cases haa : a < i
        · obtain ⟨G, rfl, hG⟩ := HI1.out.some (rows7_len R 0 i) (by omega)
          have a1 : (a : Int) < (i : Int) := by omega
          have a0 : (0 : Int) ≤ (a : Int) := by omega
          have HS : Hid (∀ W, Touch (fun _ => False) X1 W → W.rangeAt G (0 + a * 22) [.int .u64 7, .int .u64 (1 + ((a * R.length : Nat) : Int))] ∧ W.rangeAt b (o + i * 22) [.int .u64 7, .int .u64 (1 + ((i * R.length : Nat) : Int))]) := fun W t => by
            have hN1 : NewP w W (.slice (some ⟨G, 0, none⟩) i cp) (rows7 R 0 i) := HI1.out.on t
            have hl := rows7_len R 0 i
            have hr := NewP.rangeOf hN1 hl a (by omega)
            rw [rows7_get, show 0 + a = a from Nat.zero_add a] at hr
            refine ⟨p7_ids hr, p7_ids (R := R) ?_⟩
            rw [← hx.out]
            exact HRX.out W hN1.touch
          have HLX : Hid (∀ W, Calls Tryz.prog 56 #[.agg #[.int .u64 7, .int .u64 (1 + ((a * R.length : Nat) : Int))], .agg #[.int .u64 7, .int .u64 (1 + ((i * R.length : Nat) : Int))]] W fun e w' => e = .returned (.bool true) ∧ Touch (fun _ => False) W w') := fun W => HLS.out W a i haa
          obtain ⟨ka, hka⟩ : ∃ k : Int, Hid (k = 1 + ((a * R.length : Nat) : Int)) := ⟨_, Eq.refl _⟩
          obtain ⟨ki, hki⟩ : ∃ k : Int, Hid (k = 1 + ((i * R.length : Nat) : Int)) := ⟨_, Eq.refl _⟩
          rw [← hka.out, ← hki.out] at HS HLX
          clear hka hki
          go_upto_region 7 with fail
          have hS0 := HS.out Y0.drew HT.out.drew
          refine wp_region_held_drew (S := fun W => W.rangeAt G (0 + a * 22) [.int .u64 7, .int .u64 ka] ∧ W.rangeAt b (o + i * 22) [.int .u64 7, .int .u64 ki]) (by kernel_rfl) hS0 (fun hHeld => ?_)
          clear hS0
          refine wpAnyH_take (i := 0) (oi := { dst := some 28, op := Go.Op.move (Go.Operand.tmp 5), type := 3, pos := "quireref8.go:121", after := #[], guard := none }) (v := .int .i64 (a : Int)) rfl (by kernel_rfl) (by kernel_rfl) (by kernel_rfl) (fun _ _ _ h => h) (Or.inl ⟨by rfl, ?_⟩) hHeld ?_
          · intro w hSw; clear hSw; go_simp
          simp only [Act.put, List.setIfInBounds_toArray, List.set_cons_succ, List.set_cons_zero]
          refine wpAnyH_take (i := 1) (oi := { dst := some 29, op := Go.Op.move (Go.Operand.tmp 3), type := 45, pos := "quireref8.go:121", after := #[], guard := none }) (v := .slice (some ⟨G, 0, none⟩) i cp) rfl (by kernel_rfl) (by kernel_rfl) (by kernel_rfl) (fun _ _ _ h => h) (Or.inl ⟨by rfl, ?_⟩) hHeld ?_
          · intro w hSw; clear hSw; go_simp
          simp only [Act.put, List.setIfInBounds_toArray, List.set_cons_succ, List.set_cons_zero]
          refine wpAnyH_take (i := 2) (oi := { dst := some 30, op := Go.Op.call { callee := Go.Callee.builtin Go.Builtin.len, args := #[Go.Operand.tmp 29], argTypes := #[45] }, type := 3, pos := "quireref8.go:121", after := #[{ on := 1, ground := Go.Ground.data }], guard := none }) (v := .int .i64 (i : Int)) rfl (by kernel_rfl) (by kernel_rfl) (by kernel_rfl) (fun _ _ _ h => h) (Or.inl ⟨by rfl, ?_⟩) hHeld ?_
          · intro w hSw; clear hSw; go_simp
          simp only [Act.put, List.setIfInBounds_toArray, List.set_cons_succ, List.set_cons_zero]
          refine wpAnyH_take (i := 3) (oi := { dst := some 31, op := Go.Op.binOp Go.BinOp.lss 3 (Go.Operand.tmp 28) (Go.Operand.tmp 30) 3, type := 4, pos := "quireref8.go:121", after := #[{ on := 0, ground := Go.Ground.data }, { on := 2, ground := Go.Ground.data }], guard := none }) (v := .bool true) rfl (by kernel_rfl) (by kernel_rfl) (by kernel_rfl) (fun _ _ _ h => h) (Or.inl ⟨by rfl, ?_⟩) hHeld ?_
          · intro w hSw; clear hSw; go_simp
          simp only [Act.put, List.setIfInBounds_toArray, List.set_cons_succ, List.set_cons_zero]
          refine wpAnyH_take (i := 4) (oi := { dst := some 32, op := Go.Op.move (Go.Operand.tmp 31), type := 4, pos := "quireref8.go:121", after := #[{ on := 3, ground := Go.Ground.data }], guard := none }) (v := .bool true) rfl (by kernel_rfl) (by kernel_rfl) (by kernel_rfl) (fun _ _ _ h => h) (Or.inl ⟨by rfl, ?_⟩) hHeld ?_
          · intro w hSw; clear hSw; go_simp
          simp only [Act.put, List.setIfInBounds_toArray, List.set_cons_succ, List.set_cons_zero]
          refine wpAnyH_take (i := 5) (oi := { dst := some 33, op := Go.Op.move (Go.Operand.tmp 3), type := 45, pos := "quireref8.go:121", after := #[{ on := 4, ground := Go.Ground.guard }], guard := some (4, true) }) (v := .slice (some ⟨G, 0, none⟩) i cp) rfl (by kernel_rfl) (by kernel_rfl) (by kernel_rfl) (fun _ _ _ h => h) (Or.inl ⟨by rfl, ?_⟩) hHeld ?_
          · intro w hSw; clear hSw; go_simp
          simp only [Act.put, List.setIfInBounds_toArray, List.set_cons_succ, List.set_cons_zero]
          refine wpAnyH_take (i := 6) (oi := { dst := some 34, op := Go.Op.move (Go.Operand.tmp 5), type := 3, pos := "quireref8.go:121", after := #[{ on := 4, ground := Go.Ground.guard }], guard := some (4, true) }) (v := .int .i64 (a : Int)) rfl (by kernel_rfl) (by kernel_rfl) (by kernel_rfl) (fun _ _ _ h => h) (Or.inl ⟨by rfl, ?_⟩) hHeld ?_
          · intro w hSw; clear hSw; go_simp
          simp only [Act.put, List.setIfInBounds_toArray, List.set_cons_succ, List.set_cons_zero]
          refine wpAnyH_take (i := 7) (oi := { dst := some 35, op := Go.Op.indexAddr 45 (Go.Operand.tmp 33) (Go.Operand.tmp 34), type := 0, pos := "quireref8.go:121", after := #[{ on := 5, ground := Go.Ground.data }, { on := 6, ground := Go.Ground.data }, { on := 4, ground := Go.Ground.guard }], guard := some (4, true) }) (v := .pointer (some ⟨G, 0 + a * 22, none⟩)) rfl (by kernel_rfl) (by kernel_rfl) (by kernel_rfl) (fun _ _ _ h => h) (Or.inl ⟨by rfl, ?_⟩) hHeld ?_
          · intro w hSw; clear hSw; go_simp
          simp only [Act.put, List.setIfInBounds_toArray, List.set_cons_succ, List.set_cons_zero]
          refine wpAnyH_take (i := 8) (oi := { dst := some 36, op := Go.Op.fieldAddr 31 (Go.Operand.tmp 35) 0, type := 0, pos := "quireref8.go:121", after := #[{ on := 7, ground := Go.Ground.data }, { on := 4, ground := Go.Ground.guard }], guard := some (4, true) }) (v := .pointer (some ⟨G, 0 + a * 22, none⟩)) rfl (by kernel_rfl) (by kernel_rfl) (by kernel_rfl) (fun _ _ _ h => h) (Or.inl ⟨by rfl, ?_⟩) hHeld ?_
          · intro w hSw; clear hSw; go_simp
          simp only [Act.put, List.setIfInBounds_toArray, List.set_cons_succ, List.set_cons_zero]
          refine wpAnyH_take (i := 9) (oi := { dst := some 37, op := Go.Op.load 24 (Go.Operand.tmp 36), type := 24, pos := "quireref8.go:121", after := #[{ on := 8, ground := Go.Ground.data }, { on := 4, ground := Go.Ground.guard }], guard := some (4, true) }) (v := .agg #[.int .u64 7, .int .u64 ka]) rfl (by kernel_rfl) (by kernel_rfl) (by kernel_rfl) (fun _ _ _ h => h) (yieldsIf_load_mid (by rfl) 24 (.tmp 36) rfl G (0 + a * 22) rfl [.int .u64 7, .int .u64 ka] _ (fun w hw => hw.1) Tryz.underlying24 rfl (by kernel_rfl)) hHeld ?_
          simp only [Act.put, List.setIfInBounds_toArray, List.set_cons_succ, List.set_cons_zero]
          refine wpAnyH_take (i := 10) (oi := { dst := some 38, op := Go.Op.move (Go.Operand.tmp 0), type := 45, pos := "quireref8.go:121", after := #[{ on := 4, ground := Go.Ground.guard }], guard := some (4, true) }) (v := .slice (some ⟨b, o, none⟩) n cap) rfl (by kernel_rfl) (by kernel_rfl) (by kernel_rfl) (fun _ _ _ h => h) (Or.inl ⟨by rfl, ?_⟩) hHeld ?_
          · intro w hSw; clear hSw; go_simp
          simp only [Act.put, List.setIfInBounds_toArray, List.set_cons_succ, List.set_cons_zero]
          refine wpAnyH_take (i := 11) (oi := { dst := some 39, op := Go.Op.move (Go.Operand.tmp 4), type := 3, pos := "quireref8.go:121", after := #[{ on := 4, ground := Go.Ground.guard }], guard := some (4, true) }) (v := .int .i64 (i : Int)) rfl (by kernel_rfl) (by kernel_rfl) (by kernel_rfl) (fun _ _ _ h => h) (Or.inl ⟨by rfl, ?_⟩) hHeld ?_
          · intro w hSw; clear hSw; go_simp
          simp only [Act.put, List.setIfInBounds_toArray, List.set_cons_succ, List.set_cons_zero]
          refine wpAnyH_take (i := 12) (oi := { dst := some 40, op := Go.Op.indexAddr 45 (Go.Operand.tmp 38) (Go.Operand.tmp 39), type := 0, pos := "quireref8.go:121", after := #[{ on := 10, ground := Go.Ground.data }, { on := 11, ground := Go.Ground.data }, { on := 4, ground := Go.Ground.guard }], guard := some (4, true) }) (v := .pointer (some ⟨b, o + i * 22, none⟩)) rfl (by kernel_rfl) (by kernel_rfl) (by kernel_rfl) (fun _ _ _ h => h) (Or.inl ⟨by rfl, ?_⟩) hHeld ?_
          · intro w hSw; clear hSw; go_simp
          simp only [Act.put, List.setIfInBounds_toArray, List.set_cons_succ, List.set_cons_zero]
          refine wpAnyH_take (i := 13) (oi := { dst := some 41, op := Go.Op.fieldAddr 31 (Go.Operand.tmp 40) 0, type := 0, pos := "quireref8.go:121", after := #[{ on := 12, ground := Go.Ground.data }, { on := 4, ground := Go.Ground.guard }], guard := some (4, true) }) (v := .pointer (some ⟨b, o + i * 22, none⟩)) rfl (by kernel_rfl) (by kernel_rfl) (by kernel_rfl) (fun _ _ _ h => h) (Or.inl ⟨by rfl, ?_⟩) hHeld ?_
          · intro w hSw; clear hSw; go_simp
          simp only [Act.put, List.setIfInBounds_toArray, List.set_cons_succ, List.set_cons_zero]
          refine wpAnyH_take (i := 14) (oi := { dst := some 42, op := Go.Op.load 24 (Go.Operand.tmp 41), type := 24, pos := "quireref8.go:121", after := #[{ on := 13, ground := Go.Ground.data }, { on := 4, ground := Go.Ground.guard }], guard := some (4, true) }) (v := .agg #[.int .u64 7, .int .u64 ki]) rfl (by kernel_rfl) (by kernel_rfl) (by kernel_rfl) (fun _ _ _ h => h) (yieldsIf_load_mid (by rfl) 24 (.tmp 41) rfl b (o + i * 22) rfl [.int .u64 7, .int .u64 ki] _ (fun w hw => hw.2) Tryz.underlying24 rfl (by kernel_rfl)) hHeld ?_
          simp only [Act.put, List.setIfInBounds_toArray, List.set_cons_succ, List.set_cons_zero]
          refine wpAnyH_ready (rs := [15]) (by kernel_rfl) (by simp) ?_
          refine AllReadyH.cons (o := { dst := some 43, op := Go.Op.call { callee := Go.Callee.value (Go.Operand.func 56), args := #[Go.Operand.tmp 37, Go.Operand.tmp 42], argTypes := #[24, 24] }, type := 4, pos := "quireref8.go:121", after := #[{ on := 9, ground := Go.Ground.data }, { on := 14, ground := Go.Ground.data }, { on := 4, ground := Go.Ground.chain }, { on := 4, ground := Go.Ground.guard }], guard := some (4, true) }) rfl (fun K hK => ?_) AllReadyH.nil
          go_simp
          refine (HLX.out _).mono ?_
          rintro e Y1 ⟨rfl, t2⟩
          have HT1 : Hid (Touch (fun _ => False) X1 Y1) := HT.out.trans (Touch.drew_left t2)
          have hS2 := HS.out Y1 HT1.out
          clear t2 HT
          refine hK.out _ _ hS2 (fun hHeld => ?_)
          clear hK K hS2
          refine wpAnyH_take (i := 16) (oi := { dst := some 44, op := Go.Op.pick (Go.Operand.tmp 32) (Go.Operand.tmp 43) (Go.Operand.const (Go.Value.bool false)), type := 4, pos := "quireref8.go:121", after := #[{ on := 4, ground := Go.Ground.data }, { on := 15, ground := Go.Ground.data }], guard := none }) (v := .bool true) rfl (by kernel_rfl) (by kernel_rfl) (by kernel_rfl) (fun _ _ _ h => h) (Or.inl ⟨by rfl, ?_⟩) hHeld ?_
          · intro w hSw; clear hSw; go_simp
          simp only [Act.put, List.setIfInBounds_toArray, List.set_cons_succ, List.set_cons_zero]
          refine wpAnyH_done (by kernel_rfl) ?_ _
          try simp only [List.getElem_toArray, List.getElem_cons_succ, List.getElem_cons_zero, List.setIfInBounds_toArray, List.set_cons_succ, List.set_cons_zero]
          clear hHeld
          go_wp2_with fail
          go_roundg (i - (a + 1))
          case measure => omega
          case rel => exact ⟨a + 1, by omega, by go_num, HT1.out⟩
        · have hai : a = i := by omega
          subst hai
          have a1 : ¬ (a : Int) < (a : Int) := by omega
          have HN1 : Hid (NewP w Y0.drew.drew (.slice ao a cp) (rows7 R 0 a)) := HI1.out.on (HT.out.drew.drew)
          clear HI1 HT
          go_upto_region 7 with fail
          refine wp_region_held_drew (S := fun W => True) (by kernel_rfl) trivial (fun hHeld => ?_)
          refine wpAnyH_take (i := 0) (oi := { dst := some 28, op := Go.Op.move (Go.Operand.tmp 5), type := 3, pos := "quireref8.go:121", after := #[], guard := none }) (v := .int .i64 (a : Int)) rfl (by kernel_rfl) (by kernel_rfl) (by kernel_rfl) (fun _ _ _ h => h) (Or.inl ⟨by rfl, ?_⟩) hHeld ?_
          · intro w hSw; clear hSw; go_simp
          simp only [Act.put, List.setIfInBounds_toArray, List.set_cons_succ, List.set_cons_zero]
          refine wpAnyH_take (i := 1) (oi := { dst := some 29, op := Go.Op.move (Go.Operand.tmp 3), type := 45, pos := "quireref8.go:121", after := #[], guard := none }) (v := .slice ao a cp) rfl (by kernel_rfl) (by kernel_rfl) (by kernel_rfl) (fun _ _ _ h => h) (Or.inl ⟨by rfl, ?_⟩) hHeld ?_
          · intro w hSw; clear hSw; go_simp
          simp only [Act.put, List.setIfInBounds_toArray, List.set_cons_succ, List.set_cons_zero]
          refine wpAnyH_take (i := 2) (oi := { dst := some 30, op := Go.Op.call { callee := Go.Callee.builtin Go.Builtin.len, args := #[Go.Operand.tmp 29], argTypes := #[45] }, type := 3, pos := "quireref8.go:121", after := #[{ on := 1, ground := Go.Ground.data }], guard := none }) (v := .int .i64 (a : Int)) rfl (by kernel_rfl) (by kernel_rfl) (by kernel_rfl) (fun _ _ _ h => h) (Or.inl ⟨by rfl, ?_⟩) hHeld ?_
          · intro w hSw; clear hSw; go_simp
          simp only [Act.put, List.setIfInBounds_toArray, List.set_cons_succ, List.set_cons_zero]
          refine wpAnyH_take (i := 3) (oi := { dst := some 31, op := Go.Op.binOp Go.BinOp.lss 3 (Go.Operand.tmp 28) (Go.Operand.tmp 30) 3, type := 4, pos := "quireref8.go:121", after := #[{ on := 0, ground := Go.Ground.data }, { on := 2, ground := Go.Ground.data }], guard := none }) (v := .bool false) rfl (by kernel_rfl) (by kernel_rfl) (by kernel_rfl) (fun _ _ _ h => h) (Or.inl ⟨by rfl, ?_⟩) hHeld ?_
          · intro w hSw; clear hSw; go_simp
          simp only [Act.put, List.setIfInBounds_toArray, List.set_cons_succ, List.set_cons_zero]
          refine wpAnyH_take (i := 4) (oi := { dst := some 32, op := Go.Op.move (Go.Operand.tmp 31), type := 4, pos := "quireref8.go:121", after := #[{ on := 3, ground := Go.Ground.data }], guard := none }) (v := .bool false) rfl (by kernel_rfl) (by kernel_rfl) (by kernel_rfl) (fun _ _ _ h => h) (Or.inl ⟨by rfl, ?_⟩) hHeld ?_
          · intro w hSw; clear hSw; go_simp
          simp only [Act.put, List.setIfInBounds_toArray, List.set_cons_succ, List.set_cons_zero]
          refine wpAnyH_take (i := 5) (oi := { dst := some 33, op := Go.Op.move (Go.Operand.tmp 3), type := 45, pos := "quireref8.go:121", after := #[{ on := 4, ground := Go.Ground.guard }], guard := some (4, true) }) (v := undef) rfl (by kernel_rfl) (by kernel_rfl) (by kernel_rfl) (fun _ _ _ h => h) (Or.inr ⟨by rfl, rfl⟩) hHeld ?_
          simp only [Act.put, List.setIfInBounds_toArray, List.set_cons_succ, List.set_cons_zero]
          refine wpAnyH_take (i := 6) (oi := { dst := some 34, op := Go.Op.move (Go.Operand.tmp 5), type := 3, pos := "quireref8.go:121", after := #[{ on := 4, ground := Go.Ground.guard }], guard := some (4, true) }) (v := undef) rfl (by kernel_rfl) (by kernel_rfl) (by kernel_rfl) (fun _ _ _ h => h) (Or.inr ⟨by rfl, rfl⟩) hHeld ?_
          simp only [Act.put, List.setIfInBounds_toArray, List.set_cons_succ, List.set_cons_zero]
          refine wpAnyH_take (i := 7) (oi := { dst := some 35, op := Go.Op.indexAddr 45 (Go.Operand.tmp 33) (Go.Operand.tmp 34), type := 0, pos := "quireref8.go:121", after := #[{ on := 5, ground := Go.Ground.data }, { on := 6, ground := Go.Ground.data }, { on := 4, ground := Go.Ground.guard }], guard := some (4, true) }) (v := undef) rfl (by kernel_rfl) (by kernel_rfl) (by kernel_rfl) (fun _ _ _ h => h) (Or.inr ⟨by rfl, rfl⟩) hHeld ?_
          simp only [Act.put, List.setIfInBounds_toArray, List.set_cons_succ, List.set_cons_zero]
          refine wpAnyH_take (i := 8) (oi := { dst := some 36, op := Go.Op.fieldAddr 31 (Go.Operand.tmp 35) 0, type := 0, pos := "quireref8.go:121", after := #[{ on := 7, ground := Go.Ground.data }, { on := 4, ground := Go.Ground.guard }], guard := some (4, true) }) (v := undef) rfl (by kernel_rfl) (by kernel_rfl) (by kernel_rfl) (fun _ _ _ h => h) (Or.inr ⟨by rfl, rfl⟩) hHeld ?_
          simp only [Act.put, List.setIfInBounds_toArray, List.set_cons_succ, List.set_cons_zero]
          refine wpAnyH_take (i := 9) (oi := { dst := some 37, op := Go.Op.load 24 (Go.Operand.tmp 36), type := 24, pos := "quireref8.go:121", after := #[{ on := 8, ground := Go.Ground.data }, { on := 4, ground := Go.Ground.guard }], guard := some (4, true) }) (v := undef) rfl (by kernel_rfl) (by kernel_rfl) (by kernel_rfl) (fun _ _ _ h => h) (Or.inr ⟨by rfl, rfl⟩) hHeld ?_
          simp only [Act.put, List.setIfInBounds_toArray, List.set_cons_succ, List.set_cons_zero]
          refine wpAnyH_take (i := 10) (oi := { dst := some 38, op := Go.Op.move (Go.Operand.tmp 0), type := 45, pos := "quireref8.go:121", after := #[{ on := 4, ground := Go.Ground.guard }], guard := some (4, true) }) (v := undef) rfl (by kernel_rfl) (by kernel_rfl) (by kernel_rfl) (fun _ _ _ h => h) (Or.inr ⟨by rfl, rfl⟩) hHeld ?_
          simp only [Act.put, List.setIfInBounds_toArray, List.set_cons_succ, List.set_cons_zero]
          refine wpAnyH_take (i := 11) (oi := { dst := some 39, op := Go.Op.move (Go.Operand.tmp 4), type := 3, pos := "quireref8.go:121", after := #[{ on := 4, ground := Go.Ground.guard }], guard := some (4, true) }) (v := undef) rfl (by kernel_rfl) (by kernel_rfl) (by kernel_rfl) (fun _ _ _ h => h) (Or.inr ⟨by rfl, rfl⟩) hHeld ?_
          simp only [Act.put, List.setIfInBounds_toArray, List.set_cons_succ, List.set_cons_zero]
          refine wpAnyH_take (i := 12) (oi := { dst := some 40, op := Go.Op.indexAddr 45 (Go.Operand.tmp 38) (Go.Operand.tmp 39), type := 0, pos := "quireref8.go:121", after := #[{ on := 10, ground := Go.Ground.data }, { on := 11, ground := Go.Ground.data }, { on := 4, ground := Go.Ground.guard }], guard := some (4, true) }) (v := undef) rfl (by kernel_rfl) (by kernel_rfl) (by kernel_rfl) (fun _ _ _ h => h) (Or.inr ⟨by rfl, rfl⟩) hHeld ?_
          simp only [Act.put, List.setIfInBounds_toArray, List.set_cons_succ, List.set_cons_zero]
          refine wpAnyH_take (i := 13) (oi := { dst := some 41, op := Go.Op.fieldAddr 31 (Go.Operand.tmp 40) 0, type := 0, pos := "quireref8.go:121", after := #[{ on := 12, ground := Go.Ground.data }, { on := 4, ground := Go.Ground.guard }], guard := some (4, true) }) (v := undef) rfl (by kernel_rfl) (by kernel_rfl) (by kernel_rfl) (fun _ _ _ h => h) (Or.inr ⟨by rfl, rfl⟩) hHeld ?_
          simp only [Act.put, List.setIfInBounds_toArray, List.set_cons_succ, List.set_cons_zero]
          refine wpAnyH_take (i := 14) (oi := { dst := some 42, op := Go.Op.load 24 (Go.Operand.tmp 41), type := 24, pos := "quireref8.go:121", after := #[{ on := 13, ground := Go.Ground.data }, { on := 4, ground := Go.Ground.guard }], guard := some (4, true) }) (v := undef) rfl (by kernel_rfl) (by kernel_rfl) (by kernel_rfl) (fun _ _ _ h => h) (Or.inr ⟨by rfl, rfl⟩) hHeld ?_
          simp only [Act.put, List.setIfInBounds_toArray, List.set_cons_succ, List.set_cons_zero]
          refine wpAnyH_take (i := 15) (oi := { dst := some 43, op := Go.Op.call { callee := Go.Callee.value (Go.Operand.func 56), args := #[Go.Operand.tmp 37, Go.Operand.tmp 42], argTypes := #[24, 24] }, type := 4, pos := "quireref8.go:121", after := #[{ on := 9, ground := Go.Ground.data }, { on := 14, ground := Go.Ground.data }, { on := 4, ground := Go.Ground.chain }, { on := 4, ground := Go.Ground.guard }], guard := some (4, true) }) (v := undef) rfl (by kernel_rfl) (by kernel_rfl) (by kernel_rfl) (fun _ _ _ h => h) (Or.inr ⟨by rfl, rfl⟩) hHeld ?_
          simp only [Act.put, List.setIfInBounds_toArray, List.set_cons_succ, List.set_cons_zero]
          refine wpAnyH_take (i := 16) (oi := { dst := some 44, op := Go.Op.pick (Go.Operand.tmp 32) (Go.Operand.tmp 43) (Go.Operand.const (Go.Value.bool false)), type := 4, pos := "quireref8.go:121", after := #[{ on := 4, ground := Go.Ground.data }, { on := 15, ground := Go.Ground.data }], guard := none }) (v := .bool false) rfl (by kernel_rfl) (by kernel_rfl) (by kernel_rfl) (fun _ _ _ h => h) (Or.inl ⟨by rfl, ?_⟩) hHeld ?_
          · intro w hSw; clear hSw; go_simp
          simp only [Act.put, List.setIfInBounds_toArray, List.set_cons_succ, List.set_cons_zero]
          refine wpAnyH_done (by kernel_rfl) ?_ _
          try simp only [List.getElem_toArray, List.getElem_cons_succ, List.getElem_cons_zero, List.setIfInBounds_toArray, List.set_cons_succ, List.set_cons_zero]
          clear hHeld
          go_upto_region 9 with fail
          refine wp_region_held_drew (S := fun W => True) (by kernel_rfl) trivial (fun hHeld => ?_)
          refine wpAnyH_take (i := 0) (oi := { dst := some 47, op := Go.Op.move (Go.Operand.tmp 5), type := 3, pos := "quireref8.go:124", after := #[], guard := none }) (v := .int .i64 (a : Int)) rfl (by kernel_rfl) (by kernel_rfl) (by kernel_rfl) (fun _ _ _ h => h) (Or.inl ⟨by rfl, ?_⟩) hHeld ?_
          · intro w hSw; clear hSw; go_simp
          simp only [Act.put, List.setIfInBounds_toArray, List.set_cons_succ, List.set_cons_zero]
          refine wpAnyH_take (i := 1) (oi := { dst := some 48, op := Go.Op.move (Go.Operand.tmp 3), type := 45, pos := "quireref8.go:124", after := #[], guard := none }) (v := .slice ao a cp) rfl (by kernel_rfl) (by kernel_rfl) (by kernel_rfl) (fun _ _ _ h => h) (Or.inl ⟨by rfl, ?_⟩) hHeld ?_
          · intro w hSw; clear hSw; go_simp
          simp only [Act.put, List.setIfInBounds_toArray, List.set_cons_succ, List.set_cons_zero]
          refine wpAnyH_take (i := 2) (oi := { dst := some 49, op := Go.Op.call { callee := Go.Callee.builtin Go.Builtin.len, args := #[Go.Operand.tmp 48], argTypes := #[45] }, type := 3, pos := "quireref8.go:124", after := #[{ on := 1, ground := Go.Ground.data }], guard := none }) (v := .int .i64 (a : Int)) rfl (by kernel_rfl) (by kernel_rfl) (by kernel_rfl) (fun _ _ _ h => h) (Or.inl ⟨by rfl, ?_⟩) hHeld ?_
          · intro w hSw; clear hSw; go_simp
          simp only [Act.put, List.setIfInBounds_toArray, List.set_cons_succ, List.set_cons_zero]
          refine wpAnyH_take (i := 3) (oi := { dst := some 50, op := Go.Op.binOp Go.BinOp.lss 3 (Go.Operand.tmp 47) (Go.Operand.tmp 49) 3, type := 4, pos := "quireref8.go:124", after := #[{ on := 0, ground := Go.Ground.data }, { on := 2, ground := Go.Ground.data }], guard := none }) (v := .bool false) rfl (by kernel_rfl) (by kernel_rfl) (by kernel_rfl) (fun _ _ _ h => h) (Or.inl ⟨by rfl, ?_⟩) hHeld ?_
          · intro w hSw; clear hSw; go_simp
          simp only [Act.put, List.setIfInBounds_toArray, List.set_cons_succ, List.set_cons_zero]
          refine wpAnyH_take (i := 4) (oi := { dst := some 51, op := Go.Op.move (Go.Operand.tmp 50), type := 4, pos := "quireref8.go:124", after := #[{ on := 3, ground := Go.Ground.data }], guard := none }) (v := .bool false) rfl (by kernel_rfl) (by kernel_rfl) (by kernel_rfl) (fun _ _ _ h => h) (Or.inl ⟨by rfl, ?_⟩) hHeld ?_
          · intro w hSw; clear hSw; go_simp
          simp only [Act.put, List.setIfInBounds_toArray, List.set_cons_succ, List.set_cons_zero]
          refine wpAnyH_take (i := 5) (oi := { dst := some 52, op := Go.Op.move (Go.Operand.tmp 3), type := 45, pos := "quireref8.go:124", after := #[{ on := 4, ground := Go.Ground.guard }], guard := some (4, true) }) (v := undef) rfl (by kernel_rfl) (by kernel_rfl) (by kernel_rfl) (fun _ _ _ h => h) (Or.inr ⟨by rfl, rfl⟩) hHeld ?_
          simp only [Act.put, List.setIfInBounds_toArray, List.set_cons_succ, List.set_cons_zero]
          refine wpAnyH_take (i := 6) (oi := { dst := some 53, op := Go.Op.move (Go.Operand.tmp 5), type := 3, pos := "quireref8.go:124", after := #[{ on := 4, ground := Go.Ground.guard }], guard := some (4, true) }) (v := undef) rfl (by kernel_rfl) (by kernel_rfl) (by kernel_rfl) (fun _ _ _ h => h) (Or.inr ⟨by rfl, rfl⟩) hHeld ?_
          simp only [Act.put, List.setIfInBounds_toArray, List.set_cons_succ, List.set_cons_zero]
          refine wpAnyH_take (i := 7) (oi := { dst := some 54, op := Go.Op.indexAddr 45 (Go.Operand.tmp 52) (Go.Operand.tmp 53), type := 0, pos := "quireref8.go:124", after := #[{ on := 5, ground := Go.Ground.data }, { on := 6, ground := Go.Ground.data }, { on := 4, ground := Go.Ground.guard }], guard := some (4, true) }) (v := undef) rfl (by kernel_rfl) (by kernel_rfl) (by kernel_rfl) (fun _ _ _ h => h) (Or.inr ⟨by rfl, rfl⟩) hHeld ?_
          simp only [Act.put, List.setIfInBounds_toArray, List.set_cons_succ, List.set_cons_zero]
          refine wpAnyH_take (i := 8) (oi := { dst := some 55, op := Go.Op.fieldAddr 31 (Go.Operand.tmp 54) 0, type := 0, pos := "quireref8.go:124", after := #[{ on := 7, ground := Go.Ground.data }, { on := 4, ground := Go.Ground.guard }], guard := some (4, true) }) (v := undef) rfl (by kernel_rfl) (by kernel_rfl) (by kernel_rfl) (fun _ _ _ h => h) (Or.inr ⟨by rfl, rfl⟩) hHeld ?_
          simp only [Act.put, List.setIfInBounds_toArray, List.set_cons_succ, List.set_cons_zero]
          refine wpAnyH_take (i := 9) (oi := { dst := some 56, op := Go.Op.load 24 (Go.Operand.tmp 55), type := 24, pos := "quireref8.go:124", after := #[{ on := 8, ground := Go.Ground.data }, { on := 4, ground := Go.Ground.guard }], guard := some (4, true) }) (v := undef) rfl (by kernel_rfl) (by kernel_rfl) (by kernel_rfl) (fun _ _ _ h => h) (Or.inr ⟨by rfl, rfl⟩) hHeld ?_
          simp only [Act.put, List.setIfInBounds_toArray, List.set_cons_succ, List.set_cons_zero]
          refine wpAnyH_take (i := 10) (oi := { dst := some 57, op := Go.Op.move (Go.Operand.tmp 0), type := 45, pos := "quireref8.go:124", after := #[{ on := 4, ground := Go.Ground.guard }], guard := some (4, true) }) (v := undef) rfl (by kernel_rfl) (by kernel_rfl) (by kernel_rfl) (fun _ _ _ h => h) (Or.inr ⟨by rfl, rfl⟩) hHeld ?_
          simp only [Act.put, List.setIfInBounds_toArray, List.set_cons_succ, List.set_cons_zero]
          refine wpAnyH_take (i := 11) (oi := { dst := some 58, op := Go.Op.move (Go.Operand.tmp 4), type := 3, pos := "quireref8.go:124", after := #[{ on := 4, ground := Go.Ground.guard }], guard := some (4, true) }) (v := undef) rfl (by kernel_rfl) (by kernel_rfl) (by kernel_rfl) (fun _ _ _ h => h) (Or.inr ⟨by rfl, rfl⟩) hHeld ?_
          simp only [Act.put, List.setIfInBounds_toArray, List.set_cons_succ, List.set_cons_zero]
          refine wpAnyH_take (i := 12) (oi := { dst := some 59, op := Go.Op.indexAddr 45 (Go.Operand.tmp 57) (Go.Operand.tmp 58), type := 0, pos := "quireref8.go:124", after := #[{ on := 10, ground := Go.Ground.data }, { on := 11, ground := Go.Ground.data }, { on := 4, ground := Go.Ground.guard }], guard := some (4, true) }) (v := undef) rfl (by kernel_rfl) (by kernel_rfl) (by kernel_rfl) (fun _ _ _ h => h) (Or.inr ⟨by rfl, rfl⟩) hHeld ?_
          simp only [Act.put, List.setIfInBounds_toArray, List.set_cons_succ, List.set_cons_zero]
          refine wpAnyH_take (i := 13) (oi := { dst := some 60, op := Go.Op.fieldAddr 31 (Go.Operand.tmp 59) 0, type := 0, pos := "quireref8.go:124", after := #[{ on := 12, ground := Go.Ground.data }, { on := 4, ground := Go.Ground.guard }], guard := some (4, true) }) (v := undef) rfl (by kernel_rfl) (by kernel_rfl) (by kernel_rfl) (fun _ _ _ h => h) (Or.inr ⟨by rfl, rfl⟩) hHeld ?_
          simp only [Act.put, List.setIfInBounds_toArray, List.set_cons_succ, List.set_cons_zero]
          refine wpAnyH_take (i := 14) (oi := { dst := some 61, op := Go.Op.load 24 (Go.Operand.tmp 60), type := 24, pos := "quireref8.go:124", after := #[{ on := 13, ground := Go.Ground.data }, { on := 4, ground := Go.Ground.guard }], guard := some (4, true) }) (v := undef) rfl (by kernel_rfl) (by kernel_rfl) (by kernel_rfl) (fun _ _ _ h => h) (Or.inr ⟨by rfl, rfl⟩) hHeld ?_
          simp only [Act.put, List.setIfInBounds_toArray, List.set_cons_succ, List.set_cons_zero]
          refine wpAnyH_take (i := 15) (oi := { dst := some 62, op := Go.Op.binOp Go.BinOp.eql 24 (Go.Operand.tmp 56) (Go.Operand.tmp 61) 24, type := 4, pos := "quireref8.go:124", after := #[{ on := 9, ground := Go.Ground.data }, { on := 14, ground := Go.Ground.data }, { on := 4, ground := Go.Ground.guard }], guard := some (4, true) }) (v := undef) rfl (by kernel_rfl) (by kernel_rfl) (by kernel_rfl) (fun _ _ _ h => h) (Or.inr ⟨by rfl, rfl⟩) hHeld ?_
          simp only [Act.put, List.setIfInBounds_toArray, List.set_cons_succ, List.set_cons_zero]
          refine wpAnyH_take (i := 16) (oi := { dst := some 63, op := Go.Op.pick (Go.Operand.tmp 51) (Go.Operand.tmp 62) (Go.Operand.const (Go.Value.bool false)), type := 4, pos := "quireref8.go:124", after := #[{ on := 4, ground := Go.Ground.data }, { on := 15, ground := Go.Ground.data }], guard := none }) (v := .bool false) rfl (by kernel_rfl) (by kernel_rfl) (by kernel_rfl) (fun _ _ _ h => h) (Or.inl ⟨by rfl, ?_⟩) hHeld ?_
          · intro w hSw; clear hSw; go_simp
          simp only [Act.put, List.setIfInBounds_toArray, List.set_cons_succ, List.set_cons_zero]
          refine wpAnyH_done (by kernel_rfl) ?_ _
          try simp only [List.getElem_toArray, List.getElem_cons_succ, List.getElem_cons_zero, List.setIfInBounds_toArray, List.set_cons_succ, List.set_cons_zero]
          clear hHeld
          generalize Y0.drew.drew = Y2 at *
          obtain ⟨v5, w5, hrun, hN5, _⟩ := NewP.app1 HN1.out zeroO (by rw [rows7_len]; omega)
          rw [hz0] at hrun
          have hl5 : (rows7 R 0 a ++ [zeroO]).length = a + 1 := by rw [List.length_append, rows7_len]; rfl
          obtain ⟨ao5, cap5, hv5, _⟩ := hN5.shape
          rw [hl5] at hv5
          subst hv5
          obtain ⟨G5, rfl, hG5⟩ := hN5.some hl5 (by omega)
          have HN5 : Hid (NewP w w5 (.slice (some ⟨G5, 0, none⟩) (a + 1) cap5) (rows7 R 0 a ++ [zeroO])) := hN5
          clear hN5 HN1
          go_upto_region 10 with fail
          refine wp_region_lit ?_
          refine wpList_plain rfl fun K hK => ?_
          go_simp
          refine hK _ _ ?_
          clear hK K
          refine wpList_plain rfl fun K hK => ?_
          go_simp
          refine hK _ _ ?_
          clear hK K
          refine wpList_plain rfl fun K hK => ?_
          go_simp
          refine hK _ _ ?_
          clear hK K
          refine wpList_append_runP rfl _ _ rfl _ _ _ rfl rfl hrun ?_
          clear hrun
          simp only [Act.put, List.setIfInBounds_toArray, List.set_cons_succ, List.set_cons_zero]
          have wa : IntKind.i64.wrap (((a + 1 : Nat) : Int) - 1) = (a : Int) := by rw [wrap_i64_small _ (by omega) (by omega)]; omega
          have wb : IntKind.i64.wrap ((a : Int) + 1 - 1) = (a : Int) := by rw [wrap_i64_small _ (by omega) (by omega)]; omega
          go_wp2_with fail
          go_loopg [6] 0 (fun gk s6 wx => gk = 0 ∧ s6 = .int .i64 (a : Int) ∧ Hid (w5 = wx))
          case atStart => exact ⟨rfl, rfl, Eq.refl _⟩
          case round =>
            obtain ⟨_, rfl, hwx⟩ := hrel
            have hwx := hwx.out
            subst hwx
            have a2 : (a : Int) < ((a + 1 : Nat) : Int) := by omega
            have a3 : (a : Int) < (a : Int) + 1 := by omega
            obtain ⟨W6, hW6⟩ : ∃ W, Hid (W = w5.setCells G5 (a * 22) x.vals.toList) := ⟨_, Eq.refl _⟩
            have HI2 : Hid (NewP w W6 (.slice (some ⟨G5, 0, none⟩) (a + 1) cap5) (rows7 R 0 (a + 1))) := by
              have := NewP.setRow HN5.out (by rw [hl5]) a (by omega) x
              rw [hW6.out, rows7_snoc, Nat.zero_add, ← hx.out]
              have hll := rows7_len R 0 a
              have he : (rows7 R 0 a ++ [zeroO]).set a x = rows7 R 0 a ++ [x] := by
                rw [List.set_append_right _ _ (by omega), hll, Nat.sub_self]
                rfl
              rw [he] at this
              exact this
            have Ht : Hid (w5.there G5 (a * 22) x.vals.size) := by
              have := NewP.thereOf HN5.out hl5 a (by omega) x
              rw [Nat.zero_add] at this
              exact this
            go_upto_region 15 with fail
            refine wp_region_lit ?_
            refine wpList_plain rfl fun K hK => ?_
            go_simp
            refine hK _ _ ?_
            clear hK K
            refine wpList_plain rfl fun K hK => ?_
            go_simp
            refine hK _ _ ?_
            clear hK K
            refine wpList_plain rfl fun K hK => ?_
            go_simp
            refine hK _ _ ?_
            clear hK K
            refine wpList_plain rfl fun K hK => ?_
            go_simp
            refine hK _ _ ?_
            clear hK K
            refine wpList_plain rfl fun K hK => ?_
            go_simp
            refine hK _ _ ?_
            clear hK K
            refine wpList_load_mid rfl 31 (.tmp 88) rfl b (o + a * 22) rfl x.vals.toList _ (HRX.out _ HN5.out.touch) Tryz.underlying31 rfl (by kernel_rfl) ?_
            simp only [Act.put, List.setIfInBounds_toArray, List.set_cons_succ, List.set_cons_zero]
            refine wpList_plain rfl fun K hK => ?_
            go_simp
            refine hK _ _ ?_
            clear hK K
            refine wpList_store_mid rfl 31 (.tmp 90) (.tmp 89) rfl G5 (a * 22) x.vals rfl rfl Ht.out (by kernel_rfl) (by kernel_rfl) ?_
            simp only [Act.put]
            rw [← hW6.out]
            clear hW6 Ht HN5
            go_wp2_with fail
            go_roundg (n - (a + 1))
            case measure => omega
            case rel => exact ⟨a + 1, some ⟨G5, 0, none⟩, cap5, by omega, rfl, by go_num, HI2.out⟩
    · have i1 : ¬ (i : Int) < (n : Int) := by omega
      have hin : i = n := by omega
      subst hin
      obtain ⟨G, rfl, hG⟩ := HI.out.some (rows7_len R 0 i) hn
      have HRX : Hid (∀ W, Touch (fun _ => False) X0 W → ∀ j, j < i → W.rangeAt G (0 + j * 22) (p7 (j * R.length) R).vals.toList) := fun W t j hj => by
        have hl := rows7_len R 0 i
        have := NewP.rangeOf (HI.out.on t) hl j (by omega)
        rw [rows7_get, show 0 + j = j from Nat.zero_add j] at this
        exact this
      have HTW : Hid (Touch (fun _ => False) w X0) := HI.out.touch
      obtain ⟨n, hnn⟩ : ∃ n, n = i := ⟨_, rfl⟩
      subst hnn
      clear HI HCK HLS HRW
      go_wp2_with fail
      go_loopg [7, 8] n (fun gk s7 s8 wx => ∃ (i : Nat) (ao7 : Option Addr) (k7 c7 : Nat), i + gk = n ∧ s7 = .slice ao7 k7 c7 ∧ s8 = .int .i64 (i : Int) ∧ (i = 0 ∧ k7 = 0 ∨ 1 ≤ i ∧ k7 = 1) ∧ Hid (NewP X0 wx (.slice ao7 k7 c7) (row1 R i)))
      case atStart => exact ⟨0, none, 0, 0, by omega, rfl, rfl, .inl ⟨rfl, rfl⟩, NewP.nil _ _ (Touch.refl _ _)⟩
      case round =>
        obtain ⟨i, ao7, k7, c7, hig, rfl, rfl, hik, HI⟩ := hrel
        obtain ⟨Z0, hZ0⟩ : ∃ X, X = wr := ⟨_, rfl⟩
        subst hZ0
        by_cases hil : i < n
        · have i1 : (i : Int) < (n : Int) := by omega
          have i0 : (0 : Int) ≤ (i : Int) := by omega
          obtain ⟨x, hx⟩ : ∃ x, Hid (x = p7 (i * R.length) R) := ⟨_, Eq.refl _⟩
          have HXX : Hid (∀ W, Touch (fun _ => False) X0 W → W.rangeAt G (0 + i * 22) x.vals.toList) := fun W t => by rw [hx.out]; exact HRX.out W t i hil
          rcases hik with ⟨rfl, rfl⟩ | ⟨hi1, rfl⟩
          · go_upto_region 21 with fail
            refine wp_region_held_drew (S := fun W => True) (by kernel_rfl) trivial (fun hHeld => ?_)
            refine wpAnyH_take (i := 0) (oi := { dst := some 99, op := Go.Op.move (Go.Operand.tmp 9), type := 3, pos := "quireref8.go:135", after := #[], guard := none }) (v := .int .i64 0) rfl (by kernel_rfl) (by kernel_rfl) (by kernel_rfl) (fun _ _ _ h => h) (Or.inl ⟨by rfl, ?_⟩) hHeld ?_
            · intro w hSw; clear hSw; go_simp
            simp only [Act.put, List.setIfInBounds_toArray, List.set_cons_succ, List.set_cons_zero]
            refine wpAnyH_take (i := 1) (oi := { dst := some 100, op := Go.Op.binOp Go.BinOp.gtr 3 (Go.Operand.tmp 99) (Go.Operand.const (Go.Value.int Go.IntKind.i64 0)) 3, type := 4, pos := "quireref8.go:135", after := #[{ on := 0, ground := Go.Ground.data }], guard := none }) (v := .bool false) rfl (by kernel_rfl) (by kernel_rfl) (by kernel_rfl) (fun _ _ _ h => h) (Or.inl ⟨by rfl, ?_⟩) hHeld ?_
            · intro w hSw; clear hSw; go_simp
            simp only [Act.put, List.setIfInBounds_toArray, List.set_cons_succ, List.set_cons_zero]
            refine wpAnyH_take (i := 2) (oi := { dst := some 101, op := Go.Op.move (Go.Operand.tmp 100), type := 4, pos := "quireref8.go:135", after := #[{ on := 1, ground := Go.Ground.data }], guard := none }) (v := .bool false) rfl (by kernel_rfl) (by kernel_rfl) (by kernel_rfl) (fun _ _ _ h => h) (Or.inl ⟨by rfl, ?_⟩) hHeld ?_
            · intro w hSw; clear hSw; go_simp
            simp only [Act.put, List.setIfInBounds_toArray, List.set_cons_succ, List.set_cons_zero]
            refine wpAnyH_take (i := 3) (oi := { dst := some 102, op := Go.Op.move (Go.Operand.tmp 7), type := 45, pos := "quireref8.go:135", after := #[{ on := 2, ground := Go.Ground.guard }], guard := some (2, true) }) (v := undef) rfl (by kernel_rfl) (by kernel_rfl) (by kernel_rfl) (fun _ _ _ h => h) (Or.inr ⟨by rfl, rfl⟩) hHeld ?_
            simp only [Act.put, List.setIfInBounds_toArray, List.set_cons_succ, List.set_cons_zero]
            refine wpAnyH_take (i := 4) (oi := { dst := some 103, op := Go.Op.move (Go.Operand.tmp 9), type := 3, pos := "quireref8.go:135", after := #[{ on := 2, ground := Go.Ground.guard }], guard := some (2, true) }) (v := undef) rfl (by kernel_rfl) (by kernel_rfl) (by kernel_rfl) (fun _ _ _ h => h) (Or.inr ⟨by rfl, rfl⟩) hHeld ?_
            simp only [Act.put, List.setIfInBounds_toArray, List.set_cons_succ, List.set_cons_zero]
            refine wpAnyH_take (i := 5) (oi := { dst := some 104, op := Go.Op.binOp Go.BinOp.sub 3 (Go.Operand.tmp 103) (Go.Operand.const (Go.Value.int Go.IntKind.i64 1)) 3, type := 3, pos := "quireref8.go:135", after := #[{ on := 4, ground := Go.Ground.data }, { on := 2, ground := Go.Ground.guard }], guard := some (2, true) }) (v := undef) rfl (by kernel_rfl) (by kernel_rfl) (by kernel_rfl) (fun _ _ _ h => h) (Or.inr ⟨by rfl, rfl⟩) hHeld ?_
            simp only [Act.put, List.setIfInBounds_toArray, List.set_cons_succ, List.set_cons_zero]
            refine wpAnyH_take (i := 6) (oi := { dst := some 105, op := Go.Op.indexAddr 45 (Go.Operand.tmp 102) (Go.Operand.tmp 104), type := 0, pos := "quireref8.go:135", after := #[{ on := 3, ground := Go.Ground.data }, { on := 5, ground := Go.Ground.data }, { on := 2, ground := Go.Ground.guard }], guard := some (2, true) }) (v := undef) rfl (by kernel_rfl) (by kernel_rfl) (by kernel_rfl) (fun _ _ _ h => h) (Or.inr ⟨by rfl, rfl⟩) hHeld ?_
            simp only [Act.put, List.setIfInBounds_toArray, List.set_cons_succ, List.set_cons_zero]
            refine wpAnyH_take (i := 7) (oi := { dst := some 106, op := Go.Op.load 31 (Go.Operand.tmp 105), type := 31, pos := "quireref8.go:135", after := #[{ on := 6, ground := Go.Ground.data }, { on := 2, ground := Go.Ground.guard }], guard := some (2, true) }) (v := undef) rfl (by kernel_rfl) (by kernel_rfl) (by kernel_rfl) (fun _ _ _ h => h) (Or.inr ⟨by rfl, rfl⟩) hHeld ?_
            simp only [Act.put, List.setIfInBounds_toArray, List.set_cons_succ, List.set_cons_zero]
            refine wpAnyH_take (i := 8) (oi := { dst := some 107, op := Go.Op.move (Go.Operand.tmp 3), type := 45, pos := "quireref8.go:135", after := #[{ on := 2, ground := Go.Ground.guard }], guard := some (2, true) }) (v := undef) rfl (by kernel_rfl) (by kernel_rfl) (by kernel_rfl) (fun _ _ _ h => h) (Or.inr ⟨by rfl, rfl⟩) hHeld ?_
            simp only [Act.put, List.setIfInBounds_toArray, List.set_cons_succ, List.set_cons_zero]
            refine wpAnyH_take (i := 9) (oi := { dst := some 108, op := Go.Op.move (Go.Operand.tmp 8), type := 3, pos := "quireref8.go:135", after := #[{ on := 2, ground := Go.Ground.guard }], guard := some (2, true) }) (v := undef) rfl (by kernel_rfl) (by kernel_rfl) (by kernel_rfl) (fun _ _ _ h => h) (Or.inr ⟨by rfl, rfl⟩) hHeld ?_
            simp only [Act.put, List.setIfInBounds_toArray, List.set_cons_succ, List.set_cons_zero]
            refine wpAnyH_take (i := 10) (oi := { dst := some 109, op := Go.Op.indexAddr 45 (Go.Operand.tmp 107) (Go.Operand.tmp 108), type := 0, pos := "quireref8.go:135", after := #[{ on := 8, ground := Go.Ground.data }, { on := 9, ground := Go.Ground.data }, { on := 2, ground := Go.Ground.guard }], guard := some (2, true) }) (v := undef) rfl (by kernel_rfl) (by kernel_rfl) (by kernel_rfl) (fun _ _ _ h => h) (Or.inr ⟨by rfl, rfl⟩) hHeld ?_
            simp only [Act.put, List.setIfInBounds_toArray, List.set_cons_succ, List.set_cons_zero]
            refine wpAnyH_take (i := 11) (oi := { dst := some 110, op := Go.Op.load 31 (Go.Operand.tmp 109), type := 31, pos := "quireref8.go:135", after := #[{ on := 10, ground := Go.Ground.data }, { on := 2, ground := Go.Ground.guard }], guard := some (2, true) }) (v := undef) rfl (by kernel_rfl) (by kernel_rfl) (by kernel_rfl) (fun _ _ _ h => h) (Or.inr ⟨by rfl, rfl⟩) hHeld ?_
            simp only [Act.put, List.setIfInBounds_toArray, List.set_cons_succ, List.set_cons_zero]
            refine wpAnyH_take (i := 12) (oi := { dst := some 111, op := Go.Op.call { callee := Go.Callee.value (Go.Operand.func 28), args := #[Go.Operand.tmp 106, Go.Operand.tmp 110], argTypes := #[31, 31] }, type := 4, pos := "quireref8.go:135", after := #[{ on := 7, ground := Go.Ground.data }, { on := 11, ground := Go.Ground.data }, { on := 2, ground := Go.Ground.chain }, { on := 2, ground := Go.Ground.guard }], guard := some (2, true) }) (v := undef) rfl (by kernel_rfl) (by kernel_rfl) (by kernel_rfl) (fun _ _ _ h => h) (Or.inr ⟨by rfl, rfl⟩) hHeld ?_
            simp only [Act.put, List.setIfInBounds_toArray, List.set_cons_succ, List.set_cons_zero]
            refine wpAnyH_take (i := 13) (oi := { dst := some 112, op := Go.Op.pick (Go.Operand.tmp 101) (Go.Operand.tmp 111) (Go.Operand.const (Go.Value.bool false)), type := 4, pos := "quireref8.go:135", after := #[{ on := 2, ground := Go.Ground.data }, { on := 12, ground := Go.Ground.data }], guard := none }) (v := .bool false) rfl (by kernel_rfl) (by kernel_rfl) (by kernel_rfl) (fun _ _ _ h => h) (Or.inl ⟨by rfl, ?_⟩) hHeld ?_
            · intro w hSw; clear hSw; go_simp
            simp only [Act.put, List.setIfInBounds_toArray, List.set_cons_succ, List.set_cons_zero]
            refine wpAnyH_done (by kernel_rfl) ?_ _
            try simp only [List.getElem_toArray, List.getElem_cons_succ, List.getElem_cons_zero, List.setIfInBounds_toArray, List.set_cons_succ, List.set_cons_zero]
            clear hHeld
            have HN1 : Hid (NewP X0 Z0.drew (.slice ao7 0 c7) []) := HI.out.on (Touch.refl _ _).drew
            clear HI
            generalize Z0.drew = Z1 at *
            obtain ⟨v5, w5, hrun, hN5, _⟩ := NewP.app1 HN1.out x (by simp)
            have HN5 : Hid (NewP X0 w5 v5 (row1 R 1)) := by
              have e : row1 R 1 = [x] := by
                rw [hx.out]
                show [p7 0 (R ++ [])] = [p7 (0 * R.length) R]
                rw [List.append_nil, Nat.zero_mul]
              rw [e]
              exact hN5
            obtain ⟨ao5, cap5, hv5, _⟩ := hN5.shape
            have hv6 : v5 = .slice ao5 1 cap5 := hv5
            subst hv6
            clear hv5 hN5
            go_upto_region 23 with fail
            refine wp_region_lit ?_
            refine wpList_plain rfl fun K hK => ?_
            go_simp
            refine hK _ _ ?_
            clear hK K
            refine wpList_plain rfl fun K hK => ?_
            go_simp
            refine hK _ _ ?_
            clear hK K
            refine wpList_plain rfl fun K hK => ?_
            go_simp
            refine hK _ _ ?_
            clear hK K
            refine wpList_plain rfl fun K hK => ?_
            go_simp
            refine hK _ _ ?_
            clear hK K
            refine wpList_load_mid rfl 31 (.tmp 133) rfl G (0 + 0 * 22) rfl x.vals.toList _ (HXX.out _ HN1.out.touch) Tryz.underlying31 rfl (by kernel_rfl) ?_
            simp only [Act.put, List.setIfInBounds_toArray, List.set_cons_succ, List.set_cons_zero]
            refine wpList_plain rfl fun K hK => ?_
            go_simp
            refine hK _ _ ?_
            clear hK K
            refine wpList_append_runP rfl _ _ rfl _ _ _ rfl rfl hrun ?_
            clear hrun HN1
            simp only [Act.put, List.setIfInBounds_toArray, List.set_cons_succ, List.set_cons_zero]
            go_wp2_with fail
            go_roundg (n - 1)
            case measure => omega
            case rel => exact ⟨1, ao5, 1, cap5, by omega, rfl, by go_num, .inr ⟨by omega, rfl⟩, HN5.out⟩
          · obtain ⟨y, hy⟩ : ∃ y, Hid (y = p7 0 (rep7 R i)) := ⟨_, Eq.refl _⟩
            have hry : row1 R i = [y] := by unfold row1; rw [if_neg (by omega), hy.out]
            rw [hry] at HI
            obtain ⟨H, rfl, hH⟩ := HI.out.some rfl (by omega)
            have HS : Hid (∀ W, Touch (fun _ => False) Z0 W → W.rangeAt H 0 y.vals.toList ∧ W.rangeAt G (0 + i * 22) x.vals.toList) := fun W t => ⟨NewP.rangeOf (l := [y]) (HI.out.on t) rfl 0 (by simp), HXX.out W (HI.out.touch.trans t)⟩
            have HFX : Hid (∀ W, Calls Tryz.prog 28 #[y.val, x.val] W fun e w' => e = .returned (.bool true) ∧ Touch (fun _ => False) W w') := fun W => by rw [hy.out, hx.out]; exact HFT.out W i hi1 hil
            have w0 : IntKind.i64.wrap ((1 : Int) - 1) = 0 := rfl
            have w00 : IntKind.i64.wrap 0 = 0 := rfl
            have hsz : y.tx.size + x.tx.size ≤ 9223372036854775807 := by
              have := HSZ.out i hil
              rw [← hy.out, ← hx.out] at this
              exact this
            go_upto_region 21 with fail
            have hS0 := HS.out Z0.drew (Touch.refl _ _).drew
            refine wp_region_held_drew (S := fun W => W.rangeAt H 0 y.vals.toList ∧ W.rangeAt G (0 + i * 22) x.vals.toList) (by kernel_rfl) hS0 (fun hHeld => ?_)
            clear hS0
            refine wpAnyH_take (i := 0) (oi := { dst := some 99, op := Go.Op.move (Go.Operand.tmp 9), type := 3, pos := "quireref8.go:135", after := #[], guard := none }) (v := .int .i64 1) rfl (by kernel_rfl) (by kernel_rfl) (by kernel_rfl) (fun _ _ _ h => h) (Or.inl ⟨by rfl, ?_⟩) hHeld ?_
            · intro w hSw; clear hSw; go_simp
            simp only [Act.put, List.setIfInBounds_toArray, List.set_cons_succ, List.set_cons_zero]
            refine wpAnyH_take (i := 1) (oi := { dst := some 100, op := Go.Op.binOp Go.BinOp.gtr 3 (Go.Operand.tmp 99) (Go.Operand.const (Go.Value.int Go.IntKind.i64 0)) 3, type := 4, pos := "quireref8.go:135", after := #[{ on := 0, ground := Go.Ground.data }], guard := none }) (v := .bool true) rfl (by kernel_rfl) (by kernel_rfl) (by kernel_rfl) (fun _ _ _ h => h) (Or.inl ⟨by rfl, ?_⟩) hHeld ?_
            · intro w hSw; clear hSw; go_simp
            simp only [Act.put, List.setIfInBounds_toArray, List.set_cons_succ, List.set_cons_zero]
            refine wpAnyH_take (i := 2) (oi := { dst := some 101, op := Go.Op.move (Go.Operand.tmp 100), type := 4, pos := "quireref8.go:135", after := #[{ on := 1, ground := Go.Ground.data }], guard := none }) (v := .bool true) rfl (by kernel_rfl) (by kernel_rfl) (by kernel_rfl) (fun _ _ _ h => h) (Or.inl ⟨by rfl, ?_⟩) hHeld ?_
            · intro w hSw; clear hSw; go_simp
            simp only [Act.put, List.setIfInBounds_toArray, List.set_cons_succ, List.set_cons_zero]
            refine wpAnyH_take (i := 3) (oi := { dst := some 102, op := Go.Op.move (Go.Operand.tmp 7), type := 45, pos := "quireref8.go:135", after := #[{ on := 2, ground := Go.Ground.guard }], guard := some (2, true) }) (v := .slice (some ⟨H, 0, none⟩) 1 c7) rfl (by kernel_rfl) (by kernel_rfl) (by kernel_rfl) (fun _ _ _ h => h) (Or.inl ⟨by rfl, ?_⟩) hHeld ?_
            · intro w hSw; clear hSw; go_simp
            simp only [Act.put, List.setIfInBounds_toArray, List.set_cons_succ, List.set_cons_zero]
            refine wpAnyH_take (i := 4) (oi := { dst := some 103, op := Go.Op.move (Go.Operand.tmp 9), type := 3, pos := "quireref8.go:135", after := #[{ on := 2, ground := Go.Ground.guard }], guard := some (2, true) }) (v := .int .i64 1) rfl (by kernel_rfl) (by kernel_rfl) (by kernel_rfl) (fun _ _ _ h => h) (Or.inl ⟨by rfl, ?_⟩) hHeld ?_
            · intro w hSw; clear hSw; go_simp
            simp only [Act.put, List.setIfInBounds_toArray, List.set_cons_succ, List.set_cons_zero]
            refine wpAnyH_take (i := 5) (oi := { dst := some 104, op := Go.Op.binOp Go.BinOp.sub 3 (Go.Operand.tmp 103) (Go.Operand.const (Go.Value.int Go.IntKind.i64 1)) 3, type := 3, pos := "quireref8.go:135", after := #[{ on := 4, ground := Go.Ground.data }, { on := 2, ground := Go.Ground.guard }], guard := some (2, true) }) (v := .int .i64 0) rfl (by kernel_rfl) (by kernel_rfl) (by kernel_rfl) (fun _ _ _ h => h) (Or.inl ⟨by rfl, ?_⟩) hHeld ?_
            · intro w hSw; clear hSw; go_simp
            simp only [Act.put, List.setIfInBounds_toArray, List.set_cons_succ, List.set_cons_zero]
            refine wpAnyH_take (i := 6) (oi := { dst := some 105, op := Go.Op.indexAddr 45 (Go.Operand.tmp 102) (Go.Operand.tmp 104), type := 0, pos := "quireref8.go:135", after := #[{ on := 3, ground := Go.Ground.data }, { on := 5, ground := Go.Ground.data }, { on := 2, ground := Go.Ground.guard }], guard := some (2, true) }) (v := .pointer (some ⟨H, 0, none⟩)) rfl (by kernel_rfl) (by kernel_rfl) (by kernel_rfl) (fun _ _ _ h => h) (Or.inl ⟨by rfl, ?_⟩) hHeld ?_
            · intro w hSw; clear hSw; go_simp
            simp only [Act.put, List.setIfInBounds_toArray, List.set_cons_succ, List.set_cons_zero]
            refine wpAnyH_take (i := 7) (oi := { dst := some 106, op := Go.Op.load 31 (Go.Operand.tmp 105), type := 31, pos := "quireref8.go:135", after := #[{ on := 6, ground := Go.Ground.data }, { on := 2, ground := Go.Ground.guard }], guard := some (2, true) }) (v := y.val) rfl (by kernel_rfl) (by kernel_rfl) (by kernel_rfl) (fun _ _ _ h => h) (yieldsIf_load_mid (by rfl) 31 (.tmp 105) rfl H 0 rfl y.vals.toList _ (fun w hw => hw.1) Tryz.underlying31 rfl (by kernel_rfl)) hHeld ?_
            simp only [Act.put, List.setIfInBounds_toArray, List.set_cons_succ, List.set_cons_zero]
            refine wpAnyH_take (i := 8) (oi := { dst := some 107, op := Go.Op.move (Go.Operand.tmp 3), type := 45, pos := "quireref8.go:135", after := #[{ on := 2, ground := Go.Ground.guard }], guard := some (2, true) }) (v := .slice (some ⟨G, 0, none⟩) n cp) rfl (by kernel_rfl) (by kernel_rfl) (by kernel_rfl) (fun _ _ _ h => h) (Or.inl ⟨by rfl, ?_⟩) hHeld ?_
            · intro w hSw; clear hSw; go_simp
            simp only [Act.put, List.setIfInBounds_toArray, List.set_cons_succ, List.set_cons_zero]
            refine wpAnyH_take (i := 9) (oi := { dst := some 108, op := Go.Op.move (Go.Operand.tmp 8), type := 3, pos := "quireref8.go:135", after := #[{ on := 2, ground := Go.Ground.guard }], guard := some (2, true) }) (v := .int .i64 (i : Int)) rfl (by kernel_rfl) (by kernel_rfl) (by kernel_rfl) (fun _ _ _ h => h) (Or.inl ⟨by rfl, ?_⟩) hHeld ?_
            · intro w hSw; clear hSw; go_simp
            simp only [Act.put, List.setIfInBounds_toArray, List.set_cons_succ, List.set_cons_zero]
            refine wpAnyH_take (i := 10) (oi := { dst := some 109, op := Go.Op.indexAddr 45 (Go.Operand.tmp 107) (Go.Operand.tmp 108), type := 0, pos := "quireref8.go:135", after := #[{ on := 8, ground := Go.Ground.data }, { on := 9, ground := Go.Ground.data }, { on := 2, ground := Go.Ground.guard }], guard := some (2, true) }) (v := .pointer (some ⟨G, 0 + i * 22, none⟩)) rfl (by kernel_rfl) (by kernel_rfl) (by kernel_rfl) (fun _ _ _ h => h) (Or.inl ⟨by rfl, ?_⟩) hHeld ?_
            · intro w hSw; clear hSw; go_simp
            simp only [Act.put, List.setIfInBounds_toArray, List.set_cons_succ, List.set_cons_zero]
            refine wpAnyH_take (i := 11) (oi := { dst := some 110, op := Go.Op.load 31 (Go.Operand.tmp 109), type := 31, pos := "quireref8.go:135", after := #[{ on := 10, ground := Go.Ground.data }, { on := 2, ground := Go.Ground.guard }], guard := some (2, true) }) (v := x.val) rfl (by kernel_rfl) (by kernel_rfl) (by kernel_rfl) (fun _ _ _ h => h) (yieldsIf_load_mid (by rfl) 31 (.tmp 109) rfl G (0 + i * 22) rfl x.vals.toList _ (fun w hw => hw.2) Tryz.underlying31 rfl (by kernel_rfl)) hHeld ?_
            simp only [Act.put, List.setIfInBounds_toArray, List.set_cons_succ, List.set_cons_zero]
            refine wpAnyH_ready (rs := [12]) (by kernel_rfl) (by simp) ?_
            refine AllReadyH.cons (o := { dst := some 111, op := Go.Op.call { callee := Go.Callee.value (Go.Operand.func 28), args := #[Go.Operand.tmp 106, Go.Operand.tmp 110], argTypes := #[31, 31] }, type := 4, pos := "quireref8.go:135", after := #[{ on := 7, ground := Go.Ground.data }, { on := 11, ground := Go.Ground.data }, { on := 2, ground := Go.Ground.chain }, { on := 2, ground := Go.Ground.guard }], guard := some (2, true) }) rfl (fun K hK => ?_) AllReadyH.nil
            go_simp
            refine (HFX.out _).mono ?_
            rintro e Z1 ⟨rfl, t2⟩
            have HT1 : Hid (Touch (fun _ => False) Z0 Z1) := Touch.drew_left t2
            have hS2 := HS.out Z1 HT1.out
            clear t2
            refine hK.out _ _ hS2 (fun hHeld => ?_)
            clear hK K hS2
            refine wpAnyH_take (i := 13) (oi := { dst := some 112, op := Go.Op.pick (Go.Operand.tmp 101) (Go.Operand.tmp 111) (Go.Operand.const (Go.Value.bool false)), type := 4, pos := "quireref8.go:135", after := #[{ on := 2, ground := Go.Ground.data }, { on := 12, ground := Go.Ground.data }], guard := none }) (v := .bool true) rfl (by kernel_rfl) (by kernel_rfl) (by kernel_rfl) (fun _ _ _ h => h) (Or.inl ⟨by rfl, ?_⟩) hHeld ?_
            · intro w hSw; clear hSw; go_simp
            simp only [Act.put, List.setIfInBounds_toArray, List.set_cons_succ, List.set_cons_zero]
            refine wpAnyH_done (by kernel_rfl) ?_ _
            try simp only [List.getElem_toArray, List.getElem_cons_succ, List.getElem_cons_zero, List.setIfInBounds_toArray, List.set_cons_succ, List.set_cons_zero]
            clear hHeld
            go_upto_region 22 with fail
            have HN2 : Hid (NewP X0 Z1.drew (.slice (some ⟨H, 0, none⟩) 1 c7) [y]) := HI.out.on HT1.out.drew
            have hSS := HS.out Z1.drew HT1.out.drew
            have c1 : Z1.drew.cell? ⟨H, 8, none⟩ = some (.string y.tx) := by
              have := hSS.1 8 (.string y.tx) rfl
              simpa using this
            have c2 : Z1.drew.cell? ⟨G, 0 + i * 22 + 8, none⟩ = some (.string x.tx) := hSS.2 8 (.string x.tx) rfl
            have c3 : Z1.drew.cell? ⟨G, i * 22 + 8, none⟩ = some (.string x.tx) := by rw [Nat.zero_add] at c2; exact c2
            have cf : Z1.drew.frozen? ⟨H, 8, none⟩ = false := HN2.out.free rfl (by simp) _
            obtain ⟨W6, hW6⟩ : ∃ W, Hid (W = Z1.drew.setCell ⟨H, 8, none⟩ (.string (y.tx ++ x.tx))) := ⟨_, Eq.refl _⟩
            have HI2 : Hid (NewP X0 W6 (.slice (some ⟨H, 0, none⟩) 1 c7) (row1 R (i + 1))) := by
              have h9 := OwnP.set HN2.out rfl 8 (by simp) (.string (y.tx ++ x.tx)) rfl
              rw [hW6.out]
              have e : row1 R (i + 1) = [{ y with tx := y.tx ++ x.tx }] := by
                unfold row1
                rw [if_neg (by omega), hy.out, hx.out, rep7_snoc]
                show [(base7 0).withT (rep7 R i ++ R)] = [{ (base7 0).withT (rep7 R i) with tx := strOf (encAll (rep7 R i)) ++ strOf (encAll R) }]
                rw [str_app]
                rfl
              rw [e]
              exact h9
            clear hSS HS HFX HT1 HN2 HI
            refine wp_region_any (by kernel_rfl) ?_
            show Go.wpAny _ _ _ _ _ _ _ Z1.drew
            generalize Z1.drew = Z2 at *
            refine wpAny_take (i := 0) (oi := { dst := some 113, op := Go.Op.move (Go.Operand.tmp 7), type := 45, pos := "quireref8.go:136", after := #[], guard := none }) (v := .slice (some ⟨H, 0, none⟩) 1 c7) rfl (by kernel_rfl) (by kernel_rfl) (by kernel_rfl) (fun _ _ _ h => h) (Or.inl ⟨by rfl, ?_⟩) ?_
            · intro w; go_simp
            simp only [Act.put, List.setIfInBounds_toArray, List.set_cons_succ, List.set_cons_zero]
            refine wpAny_take (i := 1) (oi := { dst := some 114, op := Go.Op.move (Go.Operand.tmp 9), type := 3, pos := "quireref8.go:136", after := #[], guard := none }) (v := .int .i64 1) rfl (by kernel_rfl) (by kernel_rfl) (by kernel_rfl) (fun _ _ _ h => h) (Or.inl ⟨by rfl, ?_⟩) ?_
            · intro w; go_simp
            simp only [Act.put, List.setIfInBounds_toArray, List.set_cons_succ, List.set_cons_zero]
            refine wpAny_take (i := 2) (oi := { dst := some 115, op := Go.Op.binOp Go.BinOp.sub 3 (Go.Operand.tmp 114) (Go.Operand.const (Go.Value.int Go.IntKind.i64 1)) 3, type := 3, pos := "quireref8.go:136", after := #[{ on := 1, ground := Go.Ground.data }], guard := none }) (v := .int .i64 0) rfl (by kernel_rfl) (by kernel_rfl) (by kernel_rfl) (fun _ _ _ h => h) (Or.inl ⟨by rfl, ?_⟩) ?_
            · intro w; go_simp
            simp only [Act.put, List.setIfInBounds_toArray, List.set_cons_succ, List.set_cons_zero]
            refine wpAny_take (i := 3) (oi := { dst := some 116, op := Go.Op.move (Go.Operand.tmp 7), type := 45, pos := "quireref8.go:136", after := #[], guard := none }) (v := .slice (some ⟨H, 0, none⟩) 1 c7) rfl (by kernel_rfl) (by kernel_rfl) (by kernel_rfl) (fun _ _ _ h => h) (Or.inl ⟨by rfl, ?_⟩) ?_
            · intro w; go_simp
            simp only [Act.put, List.setIfInBounds_toArray, List.set_cons_succ, List.set_cons_zero]
            refine wpAny_take (i := 4) (oi := { dst := some 117, op := Go.Op.move (Go.Operand.tmp 9), type := 3, pos := "quireref8.go:136", after := #[], guard := none }) (v := .int .i64 1) rfl (by kernel_rfl) (by kernel_rfl) (by kernel_rfl) (fun _ _ _ h => h) (Or.inl ⟨by rfl, ?_⟩) ?_
            · intro w; go_simp
            simp only [Act.put, List.setIfInBounds_toArray, List.set_cons_succ, List.set_cons_zero]
            refine wpAny_take (i := 5) (oi := { dst := some 118, op := Go.Op.binOp Go.BinOp.sub 3 (Go.Operand.tmp 117) (Go.Operand.const (Go.Value.int Go.IntKind.i64 1)) 3, type := 3, pos := "quireref8.go:136", after := #[{ on := 4, ground := Go.Ground.data }], guard := none }) (v := .int .i64 0) rfl (by kernel_rfl) (by kernel_rfl) (by kernel_rfl) (fun _ _ _ h => h) (Or.inl ⟨by rfl, ?_⟩) ?_
            · intro w; go_simp
            simp only [Act.put, List.setIfInBounds_toArray, List.set_cons_succ, List.set_cons_zero]
            refine wpAny_take (i := 6) (oi := { dst := some 119, op := Go.Op.indexAddr 45 (Go.Operand.tmp 116) (Go.Operand.tmp 118), type := 0, pos := "quireref8.go:136", after := #[{ on := 3, ground := Go.Ground.data }, { on := 5, ground := Go.Ground.data }], guard := none }) (v := .pointer (some ⟨H, 0, none⟩)) rfl (by kernel_rfl) (by kernel_rfl) (by kernel_rfl) (fun _ _ _ h => h) (Or.inl ⟨by rfl, ?_⟩) ?_
            · intro w; go_simp
            simp only [Act.put, List.setIfInBounds_toArray, List.set_cons_succ, List.set_cons_zero]
            refine wpAny_take (i := 7) (oi := { dst := some 120, op := Go.Op.fieldAddr 31 (Go.Operand.tmp 119) 5, type := 0, pos := "quireref8.go:136", after := #[{ on := 6, ground := Go.Ground.data }], guard := none }) (v := .pointer (some ⟨H, 8, none⟩)) rfl (by kernel_rfl) (by kernel_rfl) (by kernel_rfl) (fun _ _ _ h => h) (Or.inl ⟨by rfl, ?_⟩) ?_
            · intro w; go_simp
            simp only [Act.put, List.setIfInBounds_toArray, List.set_cons_succ, List.set_cons_zero]
            refine wpAny_take (i := 9) (oi := { dst := some 122, op := Go.Op.move (Go.Operand.tmp 3), type := 45, pos := "quireref8.go:136", after := #[], guard := none }) (v := .slice (some ⟨G, 0, none⟩) n cp) rfl (by kernel_rfl) (by kernel_rfl) (by kernel_rfl) (fun _ _ _ h => h) (Or.inl ⟨by rfl, ?_⟩) ?_
            · intro w; go_simp
            simp only [Act.put, List.setIfInBounds_toArray, List.set_cons_succ, List.set_cons_zero]
            refine wpAny_take (i := 10) (oi := { dst := some 123, op := Go.Op.move (Go.Operand.tmp 8), type := 3, pos := "quireref8.go:136", after := #[], guard := none }) (v := .int .i64 (i : Int)) rfl (by kernel_rfl) (by kernel_rfl) (by kernel_rfl) (fun _ _ _ h => h) (Or.inl ⟨by rfl, ?_⟩) ?_
            · intro w; go_simp
            simp only [Act.put, List.setIfInBounds_toArray, List.set_cons_succ, List.set_cons_zero]
            refine wpAny_take (i := 11) (oi := { dst := some 124, op := Go.Op.indexAddr 45 (Go.Operand.tmp 122) (Go.Operand.tmp 123), type := 0, pos := "quireref8.go:136", after := #[{ on := 9, ground := Go.Ground.data }, { on := 10, ground := Go.Ground.data }], guard := none }) (v := .pointer (some ⟨G, 0 + i * 22, none⟩)) rfl (by kernel_rfl) (by kernel_rfl) (by kernel_rfl) (fun _ _ _ h => h) (Or.inl ⟨by rfl, ?_⟩) ?_
            · intro w; go_simp
            simp only [Act.put, List.setIfInBounds_toArray, List.set_cons_succ, List.set_cons_zero]
            refine wpAny_take (i := 12) (oi := { dst := some 125, op := Go.Op.fieldAddr 31 (Go.Operand.tmp 124) 5, type := 0, pos := "quireref8.go:136", after := #[{ on := 11, ground := Go.Ground.data }], guard := none }) (v := .pointer (some ⟨G, 0 + i * 22 + 8, none⟩)) rfl (by kernel_rfl) (by kernel_rfl) (by kernel_rfl) (fun _ _ _ h => h) (Or.inl ⟨by rfl, ?_⟩) ?_
            · intro w; go_simp
            simp only [Act.put, List.setIfInBounds_toArray, List.set_cons_succ, List.set_cons_zero]
            refine wpAny_ready (rs := [8, 13]) (by kernel_rfl) (by simp) ?_
            refine AllReady.cons (o := { dst := some 121, op := Go.Op.load 9 (Go.Operand.tmp 120), type := 9, pos := "quireref8.go:136", after := #[{ on := 7, ground := Go.Ground.data }], guard := none }) rfl (fun K hK => ?_) ?_
            · go_simp
              refine hK _ _ ?_
              clear hK K
              try simp only [Act.put, List.setIfInBounds_toArray, List.set_cons_succ, List.set_cons_zero]
              refine wpAny_ready (rs := [13]) (by kernel_rfl) (by simp) ?_
              refine AllReady.cons (o := { dst := some 126, op := Go.Op.load 9 (Go.Operand.tmp 125), type := 9, pos := "quireref8.go:136", after := #[{ on := 12, ground := Go.Ground.data }], guard := none }) rfl (fun K hK => ?_) AllReady.nil
              go_simp
              refine hK _ _ ?_
              clear hK K
              try simp only [Act.put, List.setIfInBounds_toArray, List.set_cons_succ, List.set_cons_zero]
              refine wpAny_take (i := 14) (oi := { dst := some 127, op := Go.Op.binOp Go.BinOp.add 9 (Go.Operand.tmp 121) (Go.Operand.tmp 126) 9, type := 9, pos := "quireref8.go:136", after := #[{ on := 8, ground := Go.Ground.data }, { on := 13, ground := Go.Ground.data }], guard := none }) (v := .string (y.tx ++ x.tx)) rfl (by kernel_rfl) (by kernel_rfl) (by kernel_rfl) (fun _ _ _ h => h) (Or.inl ⟨by rfl, ?_⟩) ?_
              · intro w; go_simp
              simp only [Act.put, List.setIfInBounds_toArray, List.set_cons_succ, List.set_cons_zero]
              refine wpAny_take (i := 15) (oi := { dst := some 128, op := Go.Op.indexAddr 45 (Go.Operand.tmp 113) (Go.Operand.tmp 115), type := 0, pos := "quireref8.go:136", after := #[{ on := 0, ground := Go.Ground.data }, { on := 2, ground := Go.Ground.data }, { on := 0, ground := Go.Ground.phase }, { on := 1, ground := Go.Ground.phase }, { on := 2, ground := Go.Ground.phase }, { on := 3, ground := Go.Ground.phase }, { on := 4, ground := Go.Ground.phase }, { on := 5, ground := Go.Ground.phase }, { on := 6, ground := Go.Ground.phase }, { on := 7, ground := Go.Ground.phase }, { on := 8, ground := Go.Ground.phase }, { on := 9, ground := Go.Ground.phase }, { on := 10, ground := Go.Ground.phase }, { on := 11, ground := Go.Ground.phase }, { on := 12, ground := Go.Ground.phase }, { on := 13, ground := Go.Ground.phase }, { on := 14, ground := Go.Ground.phase }], guard := none }) (v := .pointer (some ⟨H, 0, none⟩)) rfl (by kernel_rfl) (by kernel_rfl) (by kernel_rfl) (fun _ _ _ h => h) (Or.inl ⟨by rfl, ?_⟩) ?_
              · intro w; go_simp
              simp only [Act.put, List.setIfInBounds_toArray, List.set_cons_succ, List.set_cons_zero]
              refine wpAny_take (i := 16) (oi := { dst := some 129, op := Go.Op.fieldAddr 31 (Go.Operand.tmp 128) 5, type := 0, pos := "quireref8.go:136", after := #[{ on := 15, ground := Go.Ground.data }, { on := 0, ground := Go.Ground.phase }, { on := 1, ground := Go.Ground.phase }, { on := 2, ground := Go.Ground.phase }, { on := 3, ground := Go.Ground.phase }, { on := 4, ground := Go.Ground.phase }, { on := 5, ground := Go.Ground.phase }, { on := 6, ground := Go.Ground.phase }, { on := 7, ground := Go.Ground.phase }, { on := 8, ground := Go.Ground.phase }, { on := 9, ground := Go.Ground.phase }, { on := 10, ground := Go.Ground.phase }, { on := 11, ground := Go.Ground.phase }, { on := 12, ground := Go.Ground.phase }, { on := 13, ground := Go.Ground.phase }, { on := 14, ground := Go.Ground.phase }], guard := none }) (v := .pointer (some ⟨H, 8, none⟩)) rfl (by kernel_rfl) (by kernel_rfl) (by kernel_rfl) (fun _ _ _ h => h) (Or.inl ⟨by rfl, ?_⟩) ?_
              · intro w; go_simp
              simp only [Act.put, List.setIfInBounds_toArray, List.set_cons_succ, List.set_cons_zero]
              refine wpAny_ready (rs := [17]) (by kernel_rfl) (by simp) ?_
              refine AllReady.cons (o := { dst := none, op := Go.Op.store 9 (Go.Operand.tmp 129) (Go.Operand.tmp 127), type := 0, pos := "quireref8.go:136", after := #[{ on := 16, ground := Go.Ground.data }, { on := 14, ground := Go.Ground.data }, { on := 0, ground := Go.Ground.phase }, { on := 1, ground := Go.Ground.phase }, { on := 2, ground := Go.Ground.phase }, { on := 3, ground := Go.Ground.phase }, { on := 4, ground := Go.Ground.phase }, { on := 5, ground := Go.Ground.phase }, { on := 6, ground := Go.Ground.phase }, { on := 7, ground := Go.Ground.phase }, { on := 8, ground := Go.Ground.phase }, { on := 9, ground := Go.Ground.phase }, { on := 10, ground := Go.Ground.phase }, { on := 11, ground := Go.Ground.phase }, { on := 12, ground := Go.Ground.phase }, { on := 13, ground := Go.Ground.phase }, { on := 14, ground := Go.Ground.phase }], guard := none }) rfl (fun K hK => ?_) AllReady.nil
              go_simp
              refine hK _ _ ?_
              clear hK K
              try simp only [Act.put, List.setIfInBounds_toArray, List.set_cons_succ, List.set_cons_zero]
              rw [← hW6.out]
              refine wpAny_done (by kernel_rfl) ?_ _
              try simp only [List.getElem_toArray, List.getElem_cons_succ, List.getElem_cons_zero, List.setIfInBounds_toArray, List.set_cons_succ, List.set_cons_zero]
              clear hW6 c1 c2 c3 cf
              go_wp2_with fail
              go_roundg (n - (i + 1))
              case measure => omega
              case rel => exact ⟨i + 1, some ⟨H, 0, none⟩, 1, c7, by omega, rfl, by go_num, .inr ⟨by omega, rfl⟩, HI2.out⟩
            refine AllReady.cons (o := { dst := some 126, op := Go.Op.load 9 (Go.Operand.tmp 125), type := 9, pos := "quireref8.go:136", after := #[{ on := 12, ground := Go.Ground.data }], guard := none }) rfl (fun K hK => ?_) AllReady.nil
            go_simp
            refine hK _ _ ?_
            clear hK K
            try simp only [Act.put, List.setIfInBounds_toArray, List.set_cons_succ, List.set_cons_zero]
            refine wpAny_ready (rs := [8]) (by kernel_rfl) (by simp) ?_
            refine AllReady.cons (o := { dst := some 121, op := Go.Op.load 9 (Go.Operand.tmp 120), type := 9, pos := "quireref8.go:136", after := #[{ on := 7, ground := Go.Ground.data }], guard := none }) rfl (fun K hK => ?_) AllReady.nil
            go_simp
            refine hK _ _ ?_
            clear hK K
            try simp only [Act.put, List.setIfInBounds_toArray, List.set_cons_succ, List.set_cons_zero]
            refine wpAny_take (i := 14) (oi := { dst := some 127, op := Go.Op.binOp Go.BinOp.add 9 (Go.Operand.tmp 121) (Go.Operand.tmp 126) 9, type := 9, pos := "quireref8.go:136", after := #[{ on := 8, ground := Go.Ground.data }, { on := 13, ground := Go.Ground.data }], guard := none }) (v := .string (y.tx ++ x.tx)) rfl (by kernel_rfl) (by kernel_rfl) (by kernel_rfl) (fun _ _ _ h => h) (Or.inl ⟨by rfl, ?_⟩) ?_
            · intro w; go_simp
            simp only [Act.put, List.setIfInBounds_toArray, List.set_cons_succ, List.set_cons_zero]
            refine wpAny_take (i := 15) (oi := { dst := some 128, op := Go.Op.indexAddr 45 (Go.Operand.tmp 113) (Go.Operand.tmp 115), type := 0, pos := "quireref8.go:136", after := #[{ on := 0, ground := Go.Ground.data }, { on := 2, ground := Go.Ground.data }, { on := 0, ground := Go.Ground.phase }, { on := 1, ground := Go.Ground.phase }, { on := 2, ground := Go.Ground.phase }, { on := 3, ground := Go.Ground.phase }, { on := 4, ground := Go.Ground.phase }, { on := 5, ground := Go.Ground.phase }, { on := 6, ground := Go.Ground.phase }, { on := 7, ground := Go.Ground.phase }, { on := 8, ground := Go.Ground.phase }, { on := 9, ground := Go.Ground.phase }, { on := 10, ground := Go.Ground.phase }, { on := 11, ground := Go.Ground.phase }, { on := 12, ground := Go.Ground.phase }, { on := 13, ground := Go.Ground.phase }, { on := 14, ground := Go.Ground.phase }], guard := none }) (v := .pointer (some ⟨H, 0, none⟩)) rfl (by kernel_rfl) (by kernel_rfl) (by kernel_rfl) (fun _ _ _ h => h) (Or.inl ⟨by rfl, ?_⟩) ?_
            · intro w; go_simp
            simp only [Act.put, List.setIfInBounds_toArray, List.set_cons_succ, List.set_cons_zero]
            refine wpAny_take (i := 16) (oi := { dst := some 129, op := Go.Op.fieldAddr 31 (Go.Operand.tmp 128) 5, type := 0, pos := "quireref8.go:136", after := #[{ on := 15, ground := Go.Ground.data }, { on := 0, ground := Go.Ground.phase }, { on := 1, ground := Go.Ground.phase }, { on := 2, ground := Go.Ground.phase }, { on := 3, ground := Go.Ground.phase }, { on := 4, ground := Go.Ground.phase }, { on := 5, ground := Go.Ground.phase }, { on := 6, ground := Go.Ground.phase }, { on := 7, ground := Go.Ground.phase }, { on := 8, ground := Go.Ground.phase }, { on := 9, ground := Go.Ground.phase }, { on := 10, ground := Go.Ground.phase }, { on := 11, ground := Go.Ground.phase }, { on := 12, ground := Go.Ground.phase }, { on := 13, ground := Go.Ground.phase }, { on := 14, ground := Go.Ground.phase }], guard := none }) (v := .pointer (some ⟨H, 8, none⟩)) rfl (by kernel_rfl) (by kernel_rfl) (by kernel_rfl) (fun _ _ _ h => h) (Or.inl ⟨by rfl, ?_⟩) ?_
            · intro w; go_simp
            simp only [Act.put, List.setIfInBounds_toArray, List.set_cons_succ, List.set_cons_zero]
            refine wpAny_ready (rs := [17]) (by kernel_rfl) (by simp) ?_
            refine AllReady.cons (o := { dst := none, op := Go.Op.store 9 (Go.Operand.tmp 129) (Go.Operand.tmp 127), type := 0, pos := "quireref8.go:136", after := #[{ on := 16, ground := Go.Ground.data }, { on := 14, ground := Go.Ground.data }, { on := 0, ground := Go.Ground.phase }, { on := 1, ground := Go.Ground.phase }, { on := 2, ground := Go.Ground.phase }, { on := 3, ground := Go.Ground.phase }, { on := 4, ground := Go.Ground.phase }, { on := 5, ground := Go.Ground.phase }, { on := 6, ground := Go.Ground.phase }, { on := 7, ground := Go.Ground.phase }, { on := 8, ground := Go.Ground.phase }, { on := 9, ground := Go.Ground.phase }, { on := 10, ground := Go.Ground.phase }, { on := 11, ground := Go.Ground.phase }, { on := 12, ground := Go.Ground.phase }, { on := 13, ground := Go.Ground.phase }, { on := 14, ground := Go.Ground.phase }], guard := none }) rfl (fun K hK => ?_) AllReady.nil
            go_simp
            refine hK _ _ ?_
            clear hK K
            try simp only [Act.put, List.setIfInBounds_toArray, List.set_cons_succ, List.set_cons_zero]
            rw [← hW6.out]
            refine wpAny_done (by kernel_rfl) ?_ _
            try simp only [List.getElem_toArray, List.getElem_cons_succ, List.getElem_cons_zero, List.setIfInBounds_toArray, List.set_cons_succ, List.set_cons_zero]
            clear hW6 c1 c2 c3 cf
            go_wp2_with fail
            go_roundg (n - (i + 1))
            case measure => omega
            case rel => exact ⟨i + 1, some ⟨H, 0, none⟩, 1, c7, by omega, rfl, by go_num, .inr ⟨by omega, rfl⟩, HI2.out⟩
        · have i1 : ¬ (i : Int) < (n : Int) := by omega
          have hin : i = n := by omega
          subst hin
          obtain ⟨rfl⟩ : k7 = 1 := by omega
          obtain ⟨y, hy⟩ : ∃ y, Hid (y = p7 0 (rep7 R i)) := ⟨_, Eq.refl _⟩
          have hry : row1 R i = [y] := by unfold row1; rw [if_neg (by omega), hy.out]
          rw [hry] at HI
          obtain ⟨H, rfl, hH⟩ := HI.out.some rfl (by omega)
          have HYR : Hid (∀ W, Touch (fun _ => False) Z0 W → W.rangeAt H 0 y.vals.toList) := fun W t => NewP.rangeOf (l := [y]) (HI.out.on t) rfl 0 (by simp)
          have HTZ : Hid (Touch (fun _ => False) w Z0) := HTW.out.trans HI.out.touch
          rw [← hy.out] at HLN HCU
          obtain ⟨F, hF⟩ : ∃ F, F = rep7 R i := ⟨_, rfl⟩
          rw [← hF] at HCU HJ hFl
          obtain ⟨M, hM⟩ : ∃ M, M = i * R.length := ⟨_, rfl⟩
          rw [← hM] at HLN HCU hFl hN'
          have hM1 : 1 ≤ M := by rw [hM]; exact Nat.le_trans hn (Nat.le_mul_of_pos_right i h1)
          obtain ⟨J, hJ⟩ : ∃ J, J = chunks 8 a7 F := ⟨_, rfl⟩
          have HJF : Hid (J = chunks 8 a7 (rep7 R i)) := by rw [hJ, hF]; exact Eq.refl _
          have hJl : J.length ≤ 8 := by rw [hJ]; exact chunks_len 8 a7 F
          have HJE : Hid (J = chunks 8 a7 F) := hJ
          clear HI HFT HRX HTW hmul hik hF hM hJ HSZ
          go_wp2_with fail
          go_loopg [10, 11] 1 (fun gk s10 s11 wx => ∃ (ii : Nat) (ao10 : Option Addr) (k10 c10 : Nat), ii + gk = 1 ∧ s10 = .slice ao10 k10 c10 ∧ s11 = .int .i64 (ii : Int) ∧ k10 = (if ii = 0 then [] else J).length ∧ Hid (NewP Z0 wx (.slice ao10 k10 c10) (if ii = 0 then [] else J)))
          case atStart => exact ⟨0, none, 0, 0, by omega, rfl, rfl, rfl, NewP.nil _ _ (Touch.refl _ _)⟩
          case round =>
            obtain ⟨ii, ao10, k10, c10, hig2, rfl, rfl, hk10, HI⟩ := hrel
            obtain ⟨V0, hV0⟩ : ∃ X, X = wr := ⟨_, rfl⟩
            subst hV0
            have hii : ii = 0 ∨ ii = 1 := by omega
            rcases hii with rfl | rfl
            · obtain rfl : k10 = 0 := hk10
              have HN0 : Hid (NewP Z0 V0 (.slice ao10 0 c10) []) := HI.out
              clear HI
              go_upto_region 28 with fail
              refine wp_region_lit ?_
              refine wpList_plain rfl fun K hK => ?_
              go_simp
              refine hK _ _ ?_
              clear hK K
              refine wpList_plain rfl fun K hK => ?_
              go_simp
              refine hK _ _ ?_
              clear hK K
              refine wpList_plain rfl fun K hK => ?_
              go_simp
              refine hK _ _ ?_
              clear hK K
              refine wpList_load_mid rfl 31 (.tmp 145) rfl H (0) rfl y.vals.toList _ (HYR.out _ HN0.out.touch) Tryz.underlying31 rfl (by kernel_rfl) ?_
              simp only [Act.put, List.setIfInBounds_toArray, List.set_cons_succ, List.set_cons_zero]
              refine wpList_plain rfl fun K hK => ?_
              go_simp
              refine (HLN.out _).mono ?_
              rintro e V1 ⟨rfl, t1⟩
              have HN1 : Hid (NewP Z0 V1 (.slice ao10 0 c10) []) := HN0.out.on t1
              clear t1 HN0
              refine hK _ _ ?_
              clear hK K
              go_wp2_with fail
              go_loopg [10, 13] (M + 4096) (fun gk s10 s13 wx => ∃ (a f : Nat) (out : List O) (ao : Option Addr) (k c : Nat), a + gk = M + 4096 ∧ s10 = .slice ao k c ∧ s13 = .int .i64 (a : Int) ∧ Hid (k = out.length) ∧ k ≤ 8 ∧ ((a < M ∧ M - a ≤ 4096 * f ∧ Hid (out ++ chunks f (base7 a) (F.drop a) = J)) ∨ (M ≤ a ∧ out = J)) ∧ Hid (NewP Z0 wx (.slice ao k c) out))
              case atStart => exact ⟨0, 8, [], ao10, 0, c10, by omega, rfl, rfl, rfl, by omega, .inl ⟨by omega, by omega, by show [] ++ chunks 8 a7 (F.drop 0) = J; rw [List.drop_zero, HJE.out]; rfl⟩, HN1.out⟩
              case round =>
                obtain ⟨a, f, out, ao, k, c, hag, rfl, rfl, HKK, hk8, hst, HN⟩ := hrel
                obtain ⟨U0, hU0⟩ : ∃ X, X = wr := ⟨_, rfl⟩
                subst hU0
                rcases hst with ⟨haM, hfM, HJ2⟩ | ⟨haM, hoJ⟩
                · have a1 : (a : Int) < (M : Int) := by omega
                  obtain ⟨e, he⟩ : ∃ e, e = min (a + 4096) M := ⟨_, rfl⟩
                  have wa : IntKind.i64.wrap ((a : Int) + 4096) = (a : Int) + 4096 := wrap_i64_small _ (by omega) (by omega)
                  have hme : min ((a : Int) + 4096) (M : Int) = (e : Int) := by omega
                  obtain ⟨x, hx⟩ : ∃ x, Hid (x = p7 a ((F.take e).drop a)) := ⟨_, Eq.refl _⟩
                  have HCX : Hid (∀ W, Calls Tryz.prog 15 #[y.val, .int .i64 (a : Int), .int .i64 (e : Int)] W fun r w' => (∃ ok, r = .returned (.tuple #[x.val, .bool ok])) ∧ Touch (fun _ => False) W w') := fun W => by rw [hx.out]; exact HCU.out W a e (by omega) (by omega)
                  have HST : Hid ((a + 4096 < M ∧ M - (a + 4096) ≤ 4096 * (f - 1) ∧ Hid ((out ++ [x]) ++ chunks (f - 1) (base7 (a + 4096)) (F.drop (a + 4096)) = J)) ∨ (M ≤ a + 4096 ∧ out ++ [x] = J)) := by
                    have hf1 : f = (f - 1) + 1 := by omega
                    have hj := HJ2.out
                    rw [hf1] at hj
                    have hdl : (F.drop a).length = M - a := by rw [List.length_drop]; omega
                    by_cases hs : M ≤ a + 4096
                    · refine .inr ⟨hs, ?_⟩
                      rw [chunks_small _ (by omega)] at hj
                      rw [hx.out, he, show min (a + 4096) M = F.length from by omega, List.take_length]
                      exact hj
                    · refine .inl ⟨by omega, by omega, ?_⟩
                      have ht : ((F.drop a).take 4096).length = 4096 := by rw [List.length_take]; omega
                      have e9 := chunks_big (f := f - 1) (base7 a) ht (R := (F.drop a).drop 4096) (by rw [List.length_drop]; omega)
                      rw [List.take_append_drop, base7_on a 4096 (by omega), List.drop_drop] at e9
                      rw [e9] at hj
                      show (out ++ [x]) ++ _ = J
                      rw [List.append_assoc, hx.out, he, show min (a + 4096) M = a + 4096 from by omega, List.drop_take, show a + 4096 - a = 4096 from by omega]
                      exact hj
                  clear hx HJ2 he
                  go_upto_region 32 with fail
                  try rw [hme]
                  refine wp_region_lit ?_
                  refine wpList_plain rfl fun K hK => ?_
                  go_simp
                  refine hK _ _ ?_
                  clear hK K
                  refine wpList_plain rfl fun K hK => ?_
                  go_simp
                  refine hK _ _ ?_
                  clear hK K
                  refine wpList_plain rfl fun K hK => ?_
                  go_simp
                  refine hK _ _ ?_
                  clear hK K
                  refine wpList_load_mid rfl 31 (.tmp 156) rfl H (0) rfl y.vals.toList _ (HYR.out _ HN.out.touch) Tryz.underlying31 rfl (by kernel_rfl) ?_
                  simp only [Act.put, List.setIfInBounds_toArray, List.set_cons_succ, List.set_cons_zero]
                  refine wpList_plain rfl fun K hK => ?_
                  go_simp
                  refine hK _ _ ?_
                  clear hK K
                  refine wpList_plain rfl fun K hK => ?_
                  go_simp
                  refine hK _ _ ?_
                  clear hK K
                  refine wpList_plain rfl fun K hK => ?_
                  go_simp
                  refine hK _ _ ?_
                  clear hK K
                  refine wpList_plain rfl fun K hK => ?_
                  go_simp
                  refine hK _ _ ?_
                  clear hK K
                  refine wpList_plain rfl fun K hK => ?_
                  go_simp
                  refine hK _ _ ?_
                  clear hK K
                  try rw [hme]
                  refine wpList_plain rfl fun K hK => ?_
                  go_simp
                  try rw [hme]
                  refine (HCX.out _).mono ?_
                  rintro e' U1 ⟨⟨ok, rfl⟩, t1⟩
                  have HN1' : Hid (NewP Z0 U1 (.slice ao k c) out) := HN.out.on t1
                  clear t1 HN
                  refine hK _ _ ?_
                  clear hK K
                  refine wpList_plain rfl fun K hK => ?_
                  go_simp
                  refine hK _ _ ?_
                  clear hK K
                  refine wpList_plain rfl fun K hK => ?_
                  go_simp
                  refine hK _ _ ?_
                  clear hK K
                  refine wpList_plain rfl fun K hK => ?_
                  go_simp
                  refine hK _ _ ?_
                  clear hK K
                  refine wpList_plain rfl fun K hK => ?_
                  go_simp
                  refine hK _ _ ?_
                  clear hK K
                  have hz : OpAt U1.heap.size zeroO (U1.alloc (.cells #[.int .u64 0, .int .u64 0, .int .i64 0, .int .u64 0, .int .u64 0, .int .u64 0, .int .u64 0, .int .u64 0, .string ⟨#[]⟩, .int .i64 0, .int .i64 0, .float .f64 0, .string ⟨#[]⟩, .string ⟨#[]⟩, .int .u64 0, .int .u64 0, .int .u64 0, .int .u64 0, .bool false, .int .u64 0, .int .u64 0, .bool false] 31)) := heap_alloc_new _ _
                  refine wpList_store_mid rfl 31 (.tmp 14) (.tmp 164) rfl U1.heap.size 0 x.vals rfl rfl (hz.there 0 22 (by decide)) (by kernel_rfl) (by kernel_rfl) ?_
                  simp only [Act.put]
                  obtain ⟨U2, hW⟩ : ∃ W, Hid (W = (U1.alloc (.cells #[.int .u64 0, .int .u64 0, .int .i64 0, .int .u64 0, .int .u64 0, .int .u64 0, .int .u64 0, .int .u64 0, .string ⟨#[]⟩, .int .i64 0, .int .i64 0, .float .f64 0, .string ⟨#[]⟩, .string ⟨#[]⟩, .int .u64 0, .int .u64 0, .int .u64 0, .int .u64 0, .bool false, .int .u64 0, .int .u64 0, .bool false] 31)).setCells U1.heap.size 0 x.vals.toList) := ⟨_, Eq.refl _⟩
                  have H2 : Hid (Touch (fun _ => False) U1 U2 ∧ OpAt U1.heap.size x U2) := by rw [hW.out]; exact ⟨((Touch.refl _ _).alloc _).stored (Nat.le_refl _) 0 _, hz.stored 0 x.vals.toList (by kernel_rfl)⟩
                  rw [← hW.out]
                  clear hW hz
                  have HN2 : Hid (NewP Z0 U2 (.slice ao k c) out) := HN1'.out.on H2.out.1
                  obtain ⟨v5, w5, hrun, hN5, _⟩ := NewP.app1 HN2.out x (by have := HKK.out; omega)
                  have HN5 : Hid (NewP Z0 w5 v5 (out ++ [x])) := hN5
                  obtain ⟨ao5, cap5, hv5, _⟩ := hN5.shape
                  rw [List.length_append, ← HKK.out] at hv5
                  have hv6 : v5 = .slice ao5 (k + 1) cap5 := hv5
                  subst hv6
                  clear hv5 hN5 HN1' HN2
                  refine wpList_plain rfl fun K hK => ?_
                  go_simp
                  refine hK _ _ ?_
                  clear hK K
                  go_upto_region 33 with fail
                  refine wp_region_lit ?_
                  refine wpList_plain rfl fun K hK => ?_
                  go_simp
                  refine hK _ _ ?_
                  clear hK K
                  refine wpList_load_mid rfl 31 (.tmp 14) rfl U1.heap.size 0 rfl x.vals.toList _ (rangeAt_of H2.out.2) Tryz.underlying31 rfl (by kernel_rfl) ?_
                  simp only [Act.put, List.setIfInBounds_toArray, List.set_cons_succ, List.set_cons_zero]
                  refine wpList_plain rfl fun K hK => ?_
                  go_simp
                  refine hK _ _ ?_
                  clear hK K
                  refine wpList_append_runP rfl _ _ rfl _ _ _ rfl rfl hrun ?_
                  clear hrun H2
                  simp only [Act.put, List.setIfInBounds_toArray, List.set_cons_succ, List.set_cons_zero]
                  have hk9 : k + 1 ≤ 8 := by
                    have e1 : (out ++ [x]).length = k + 1 := by rw [List.length_append, ← HKK.out]; rfl
                    rcases HST.out with ⟨_, _, h⟩ | ⟨_, h⟩
                    · have := congrArg List.length h.out
                      rw [List.length_append] at this
                      omega
                    · rw [h] at e1; omega
                  go_wp2_with fail
                  go_roundg (M - a)
                  case measure => omega
                  case rel => exact ⟨a + 4096, f - 1, out ++ [x], ao5, k + 1, cap5, by omega, rfl, by go_num, by rw [List.length_append, ← HKK.out]; rfl, hk9, HST.out, HN5.out⟩
                · have a1 : ¬ (a : Int) < (M : Int) := by omega
                  have HNo : Hid (NewP Z0 U0 (.slice ao k c) J) := by rw [← hoJ]; exact HN.out
                  have HKO : Hid (k = J.length) := by rw [← hoJ]; exact HKK.out
                  clear HN hoJ
                  go_wp2_with fail
                  go_roundg 0
                  case measure => omega
                  case rel => exact ⟨1, ao, k, c, by omega, rfl, by go_num, HKO.out, HNo.out⟩
            · have HNJ : Hid (NewP w V0 (.slice ao10 k10 c10) (chunks 8 a7 (rep7 R i))) := by rw [← HJF.out]; exact HI.out.since HTZ.out
              go_wp2_with fail
              go_ret
              exact ⟨_, rfl, HNJ.out⟩
end Go.Proofs.YtphcnjbiojdalaaGreatDoor
