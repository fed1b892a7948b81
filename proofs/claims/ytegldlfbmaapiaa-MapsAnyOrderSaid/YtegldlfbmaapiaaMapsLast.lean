/- quirelaw12.MapsLast. -/
import Derived.Test.YtegldlfbmaapiaaPart18
import Derived.Test.YtegldlfbmaapiaaPart19
import Derived.Test.YtegldlfbmaapiaaRChk4
namespace Go.Proofs.Ytegldlfbmaapiaa
open Go.RowKit Go.Maps
set_option linter.unusedVariables false
set_option linter.unusedSimpArgs false
set_option maxRecDepth 100000

theorem LiesK.at {w : World} {k : IntKind} {ao : Option Addr} {zs : List Int} (h : LiesK w k ao zs) {i : Nat} (hi : i < zs.length) : ∃ b o, ao = some ⟨b, o, none⟩ ∧ ∀ W, Touch (fun _ => False) w W → W.cell? ⟨b, o + i, none⟩ = some (.int k zs[i]) := by
  rcases h with e | ⟨b, o, e, hc⟩
  · subst e; simp at hi
  · refine ⟨b, o, e, fun W t => ?_⟩
    have := hc i hi
    rw [World.cell?_of_block (t.block _ (World.block_lt_of_cell? _ _ this) id)]; exact this
/-- The best of those that were laid, and whether there is one. -/
def BestOf (isb : Bool) (b : O) (L : List O) : Prop := (isb = false ∧ L = []) ∨ (isb = true ∧ b ∈ L ∧ ∀ o ∈ L, o = b ∨ lessM o b = true)
theorem opErr_cases (b : Bool) : ∃ er, Hid (opErr b = er) := ⟨_, Eq.refl _⟩
set_option maxHeartbeats 64000000 in
theorem mapsLast_any (w : World) (ao : Option Addr) (zs : List Int) (n cap : Nat) (hL : n = zs.length) (hS : LiesK w .u8 ao zs) (hX : cap ≤ maxLen) (hM : n ≤ cap) (hY : ∀ y ∈ zs, 0 ≤ y ∧ y < 256)
    (ao2 : Option Addr) (l : List V) (m cap2 : Nat) (hl : m = l.length) (hV : LiesV w ao2 l) (hF : ∀ x ∈ l, fitsV x) (hM2 : m ≤ cap2) (hX2 : cap2 ≤ maxLen) :
    Calls Try.prog 5 #[.slice ao n cap, .slice ao2 m cap2] w fun e w' => e = .returned (.bool true) ∧ Touch (fun _ => False) w w' := by
  have HKn : Hid (Calls Try.prog 6 #[] w fun e w' => e = .returned (.bool true) ∧ Touch (fun _ => False) w w') := known_any w
  have HZ : Hid (LiesK w .u8 ao zs ∧ ∀ y ∈ zs, 0 ≤ y ∧ y < 256) := ⟨hS, hY⟩
  have HV : Hid (LiesV w ao2 l ∧ ∀ x ∈ l, fitsV x) := ⟨hV, hF⟩
  have hn1 : n ≤ 9223372036854775807 := by unfold maxLen at hX; omega
  have hm1 : m ≤ 9223372036854775807 := by unfold maxLen at hX2; omega
  clear hS hX hY hV hF hX2
  go_enter Try.func5, Try.ntmps5
  go_wp2_with fail
  refine HKn.out.mono ?_
  rintro e w1 ⟨rfl, tk⟩
  have HT1 : Hid (Touch (fun _ => False) w w1) := tk
  clear tk HKn
  by_cases h40 : 40 < n
  · have d1 : (40 : Int) < (n : Int) := by omega
    go_wp2_with fail
    go_ret
    exact ⟨rfl, HT1.out⟩
  by_cases h41 : 40 < m
  · have d1 : ¬ (40 : Int) < (n : Int) := by omega
    have d2 : (40 : Int) < (m : Int) := by omega
    go_wp2_with fail
    go_ret
    exact ⟨rfl, HT1.out⟩
  have d1 : ¬ (40 : Int) < (n : Int) := by omega
  have d2 : ¬ (40 : Int) < (m : Int) := by omega
  have HNew : Hid (Calls Try.prog 8 #[] w1 fun e w' => ∃ g, e = .returned (.pointer (some ⟨g, 0, none⟩)) ∧ Lv w1 (fun _ => False) w' g newS []) := lv_new w1
  go_wp2_with fail
  refine HNew.out.mono ?_
  rintro e w2 ⟨g, rfl, hl2⟩
  have HL2 : Hid (Lv w1 (fun _ => False) w2 g newS []) := hl2
  clear hl2 HNew d1 d2
  go_upto_region 6 with fail
  refine wp_region_lit ?_
  iterate 2 (refine wpList_plain rfl fun K hK => ?_; go_simp; refine hK _ _ ?_; clear hK K)
  refine wpList_store_mid rfl 41 (.tmp 6) (.tmp 23) rfl w2.heap.size 0 zeroO.vals rfl rfl (OpAt.there (o := zeroO) (heap_alloc_new w2 zeroOp) 0 22 (by decide)) (by kernel_rfl) (by kernel_rfl) ?_
  simp only [Act.put]
  have hnn := newOpM w2 zeroO
  obtain ⟨X0, hX0⟩ : ∃ X, Hid (X = w2.heap.size) := ⟨_, Eq.refl _⟩
  obtain ⟨W3, hW3⟩ : ∃ W, Hid (W = (w2.alloc zeroOp).setCells w2.heap.size 0 zeroO.vals.toList) := ⟨_, Eq.refl _⟩
  rw [← hW3.out] at hnn ⊢
  rw [← hX0.out] at hnn ⊢
  have HL3 : Hid (Lv w1 (fun k => k = X0) W3 g newS [] ∧ OpAt X0 zeroO W3) := ⟨(HL2.out.box hnn.1 (by rw [hX0.out]; exact Nat.le_refl _) (lt_of_heap hnn.2)).weaken fun k hk => .inr hk, hnn.2⟩
  have HX0 : Hid (w1.heap.size ≤ X0) := by rw [hX0.out]; exact HL2.out.touch0.size
  clear hW3 hnn HL2 hX0
  generalize Value.agg zeroO.vals = vz
  go_wp2_with fail
  go_loopg [7, 8] zs.length (fun gk s7 s8 wr => ∃ (i : Nat) (L : List O) (s : MS) (b : O) (isb : Bool), i + gk = zs.length ∧ s7 = .bool isb ∧ s8 = .int .i64 (i : Int) ∧ i ≤ l.length ∧ Hid (Lv w1 (fun k => k = X0) wr g s L ∧ OpAt X0 b wr ∧ s.hid = [] ∧ L.length = i ∧ (∀ o ∈ L, o.pc = 0 ∧ o.pk = 0 ∧ o.ky = kK ∧ o.vk ≠ 5 ∧ o.k ≤ (i : Int)) ∧ BestOf isb b L))
  case atStart => exact ⟨0, [], newS, zeroO, false, by omega, rfl, rfl, Nat.zero_le _, HL3.out.1, HL3.out.2, rfl, rfl, (fun o ho => by cases ho), Or.inl ⟨rfl, rfl⟩⟩
  case round =>
    obtain ⟨i, L, s, b, isb, hig, rfl, rfl, hil, HR⟩ := hrel
    have HTw : Hid (Touch (fun _ => False) w wr) := HT1.out.trans HR.out.1.touch0
    by_cases hboth : i < zs.length ∧ i < l.length
    · obtain ⟨sb, so, rfl, hzc⟩ := HZ.out.1.at hboth.1
      obtain ⟨vb, vo, rfl, hvc⟩ := HV.out.1 i hboth.2
      obtain ⟨z, hz⟩ : ∃ z, z = zs[i]'hboth.1 := ⟨_, rfl⟩
      obtain ⟨x, hx⟩ : ∃ x, x = l[i]'hboth.2 := ⟨_, rfl⟩
      have hz2 := HZ.out.2 z (by rw [hz]; exact List.getElem_mem _)
      have hx2 := HV.out.2 x (by rw [hx]; exact List.getElem_mem _)
      rw [← hz] at hzc
      rw [← hx] at hvc
      obtain ⟨vk, vn, vf, vs⟩ := x
      simp only at hvc
      have HS : Hid (∀ V, Touch (fun _ => False) w V → (V.cell? ⟨sb, so + i, none⟩ = some (.int .u8 z) ∧ V.cell? ⟨vb, vo + i * 4, none⟩ = some (.int .i64 vk) ∧ V.cell? ⟨vb, vo + i * 4 + 1, none⟩ = some (.int .i64 vn) ∧ V.cell? ⟨vb, vo + i * 4 + 2, none⟩ = some (.float .f64 vf) ∧ V.cell? ⟨vb, vo + i * 4 + 3, none⟩ = some (.string vs))) := fun V t => ⟨hzc V t, (hvc V t).1, (hvc V t).2.1, (hvc V t).2.2.1, (hvc V t).2.2.2⟩
      have Hil : Hid (i < zs.length ∧ i < l.length ∧ i < 40) := ⟨hboth.1, hboth.2, by omega⟩
      obtain ⟨z0, v0, v1, v2, v3⟩ := HS.out wr HTw.out
      have l1 : (i : Int) < (n : Int) := by omega
      have l2 : (i : Int) < (m : Int) := by omega
      have l0 : (0 : Int) ≤ (i : Int) := by omega
      have l3 : (i : Int) < 40 := by omega
      clear hzc hvc hz hx hboth
      by_cases hs1 : 100 < vs.size
      · have e1 : (100 : Int) < (vs.size : Int) := by omega
        go_wp2_with fail
        go_ret
        exact ⟨rfl, HTw.out⟩
      have e1 : ¬ (100 : Int) < (vs.size : Int) := by omega
      by_cases hk5 : vk = 5
      · have e2 : (vk == 5) = true := by simpa using hk5
        go_wp2_with fail
        go_ret
        exact ⟨rfl, HTw.out⟩
      have e2 : (vk == 5) = false := by simpa using hk5
      obtain ⟨ck, hck⟩ : ∃ ck, ck = ((i + 1 : Nat) : Int) := ⟨_, rfl⟩
      obtain ⟨r6, hr6⟩ : ∃ r, r = z % 6 := ⟨_, rfl⟩
      obtain ⟨st, hst⟩ : ∃ r, r = z % 6 + 1 := ⟨_, rfl⟩
      obtain ⟨q64, hq64⟩ : ∃ r, r = z / 64 := ⟨_, rfl⟩
      obtain ⟨cl, hcl⟩ : ∃ r, r = z / 64 + 1 := ⟨_, rfl⟩
      have Hck : Hid (ck = ((i + 1 : Nat) : Int)) := hck
      have w1' : IntKind.i64.wrap ((i : Int) + 1) = ck := by rw [IntKind.wrap_i64, hck]; omega
      have w2' : IntKind.u64.wrap ck = ck := wrap_u64_small _ (by omega) (by omega)
      have w3' : IntKind.u8.wrap (Int.tmod z 6) = r6 := by rw [Int.tmod_eq_emod_of_nonneg hz2.1, ← hr6]; simp [IntKind.wrap, IntKind.signed, IntKind.bits]; omega
      have w3'' : Int.tmod z 6 = r6 := by rw [Int.tmod_eq_emod_of_nonneg hz2.1, ← hr6]
      have w4' : IntKind.u64.wrap r6 = r6 := wrap_u64_small _ (by omega) (by omega)
      have w5' : IntKind.u64.wrap (r6 + 1) = st := by rw [hst, hr6]; exact wrap_u64_small _ (by omega) (by omega)
      have w6' : IntKind.u8.wrap (Int.tdiv z 64) = q64 := by rw [Int.tdiv_eq_ediv_of_nonneg hz2.1, ← hq64]; simp [IntKind.wrap, IntKind.signed, IntKind.bits]; omega
      have w6'' : Int.tdiv z 64 = q64 := by rw [Int.tdiv_eq_ediv_of_nonneg hz2.1, ← hq64]
      have w6a : IntKind.u8.wrap r6 = r6 := by simp [IntKind.wrap, IntKind.signed, IntKind.bits]; omega
      have w6b : IntKind.u8.wrap q64 = q64 := by simp [IntKind.wrap, IntKind.signed, IntKind.bits]; omega
      have w7' : IntKind.u64.wrap q64 = q64 := wrap_u64_small _ (by omega) (by omega)
      have w8' : IntKind.u64.wrap (q64 + 1) = cl := by rw [hcl, hq64]; exact wrap_u64_small _ (by omega) (by omega)
      obtain ⟨o0, ho0⟩ : ∃ o, Hid (o = setO ck st 0 0 kK ⟨vk, vn, vf, vs⟩) := ⟨_, Eq.refl _⟩
      obtain ⟨o1, ho1⟩ : ∃ o : O, Hid (o = { o0 with c := cl }) := ⟨_, Eq.refl _⟩
      have HSet : Hid (∀ W, Calls Try.prog 15 #[.int .u64 ck, .int .u64 st, .agg #[.int .u64 0, .int .u64 0], .string ⟨#[107]⟩, .agg #[.int .i64 vk, .int .i64 vn, .float .f64 vf, .string vs]] W fun e w' => e = .returned (.agg o0.vals) ∧ Touch (fun _ => False) W w') := fun W => by
        rw [ho0.out]; exact setO_any ck st 0 0 kK ⟨vk, vn, vf, vs⟩ W
      have hf0 : o0.fits := by
        rw [ho0.out]
        exact setO_fits (by omega) (by omega) (by decide) (by decide) hx2.1 hx2.2.1 hx2.2.2
      have hf1 : o1.fits := by
        rw [ho1.out]
        exact ⟨(show 0 ≤ cl ∧ cl < 18446744073709551616 by omega), hf0.k0, hf0.kind, hf0.st, hf0.lc, hf0.lk, hf0.rc, hf0.rk, hf0.pc, hf0.pk, hf0.fc, hf0.fk, hf0.tc, hf0.tk, hf0.vk, hf0.vn, hf0.vf⟩
      obtain ⟨er, her⟩ := opErr_cases (rchk o1)
      have HCk : Hid (∀ W, Calls Try.prog 17 #[.agg o1.vals] W fun e w' => e = .returned (.int .i64 er) ∧ Touch (fun _ => False) W w') := fun W => by
        rw [← her.out]
        exact rchk_k4 o1 (by rw [ho1.out, ho0.out]; rfl) (by rw [ho1.out, ho0.out]; exact ⟨(by show (0 : Nat) ≤ _; omega), (by show (1 : Nat) ≤ _; omega), (by show vs.size ≤ _; omega)⟩) W
      have hmem0 : ∀ o ∈ L, o.k ≤ (i : Int) := fun o ho => (HR.out.2.2.2.2.1 o ho).2.2.2.2
      have hok1 : okS s o1 = true := by
        refine ok_of HR.out.1.hasL hf1 (by rw [ho1.out, ho0.out]; rfl) ?_ ?_ (.inl (by rw [ho1.out, ho0.out]; exact ⟨rfl, rfl⟩)) ?_
        · rw [ho1.out]; exact numOk_iff.2 (show 1 ≤ cl ∧ cl ≤ 9007199254740991 by omega)
        · rw [ho1.out, ho0.out]; exact numOk_iff.2 (show 1 ≤ ck ∧ ck ≤ 9007199254740991 by omega)
        · rintro o ho ⟨_, e⟩
          have h1 := hmem0 o ho
          rw [ho1.out, ho0.out] at e
          have h2 : o.k = ck := e
          omega
      have Hfo : Hid (o1.fits ∧ o1.ky = kK ∧ okS s o1 = true ∧ o1.pc = 0 ∧ o1.pk = 0 ∧ o1.ky = kK ∧ o1.vk ≠ 5 ∧ o1.k ≤ ((i + 1 : Nat) : Int)) := by
        refine ⟨hf1, by rw [ho1.out, ho0.out]; rfl, hok1, by rw [ho1.out, ho0.out]; rfl, by rw [ho1.out, ho0.out]; rfl, by rw [ho1.out, ho0.out]; rfl, ?_, ?_⟩
        · rw [ho1.out, ho0.out]; exact hk5
        · rw [ho1.out, ho0.out]; show ck ≤ _; omega
      have Hk1 : Hid ((i : Int) < o1.k) := by
        rw [ho1.out, ho0.out]; show (i : Int) < ck; omega
      clear hf0 hf1 hok1 hmem0 her hz2 hx2 hs1 hk5 hck hr6 hst hq64 hcl
      · go_upto_region 12 with fail
        clear z0 v0 v1 v2 v3 e1 e2 l2
        refine wp_region_held_drew (S := fun V => (V.cell? ⟨sb, so + i, none⟩ = some (.int .u8 z) ∧ V.cell? ⟨vb, vo + i * 4, none⟩ = some (.int .i64 vk) ∧ V.cell? ⟨vb, vo + i * 4 + 1, none⟩ = some (.int .i64 vn) ∧ V.cell? ⟨vb, vo + i * 4 + 2, none⟩ = some (.float .f64 vf) ∧ V.cell? ⟨vb, vo + i * 4 + 3, none⟩ = some (.string vs))) (by kernel_rfl) (HS.out _ (HTw.out.drew)) (fun hHeld => ?_)
        have HTV : Hid (Touch (fun _ => False) w wr.drew ∧ Touch (fun _ => False) wr wr.drew) := ⟨HTw.out.drew, (Touch.refl _ _).drew⟩
        obtain ⟨U9, hU9⟩ : ∃ U9, Hid (U9 = wr.drew) := ⟨_, Eq.refl _⟩
        rw [← hU9.out] at hHeld HTV ⊢
        clear hU9
        refine wpAnyH_take (i := 0) (oi := { dst := some 51, op := Go.Op.move (Go.Operand.tmp 8), type := 3, pos := "law.go:226", after := #[], guard := none }) (v := .int .i64 (i : Int)) rfl (by kernel_rfl) (by kernel_rfl) (by kernel_rfl) (fun _ _ _ h => h) (Or.inl ⟨by kernel_rfl, ?_⟩) hHeld ?_
        · intro V1 hV1; obtain ⟨z0, v0, v1, v2, v3⟩ := hV1; go_simp
        simp only [Act.put, List.setIfInBounds_toArray, List.set_cons_succ, List.set_cons_zero]
        refine wpAnyH_take (i := 1) (oi := { dst := some 52, op := Go.Op.binOp Go.BinOp.add 3 (Go.Operand.tmp 51) (Go.Operand.const (Go.Value.int Go.IntKind.i64 1)) 3, type := 3, pos := "law.go:226", after := #[{ on := 0, ground := Go.Ground.data }], guard := none }) (v := .int .i64 ck) rfl (by kernel_rfl) (by kernel_rfl) (by kernel_rfl) (fun _ _ _ h => h) (Or.inl ⟨by kernel_rfl, ?_⟩) hHeld ?_
        · intro V1 hV1; obtain ⟨z0, v0, v1, v2, v3⟩ := hV1; go_simp
        simp only [Act.put, List.setIfInBounds_toArray, List.set_cons_succ, List.set_cons_zero]
        refine wpAnyH_take (i := 2) (oi := { dst := some 53, op := Go.Op.convert 3 32 (Go.Operand.tmp 52), type := 32, pos := "law.go:226", after := #[{ on := 1, ground := Go.Ground.data }], guard := none }) (v := .int .u64 ck) rfl (by kernel_rfl) (by kernel_rfl) (by kernel_rfl) (fun _ _ _ h => h) (Or.inl ⟨by kernel_rfl, ?_⟩) hHeld ?_
        · intro V1 hV1; obtain ⟨z0, v0, v1, v2, v3⟩ := hV1; go_simp
        simp only [Act.put, List.setIfInBounds_toArray, List.set_cons_succ, List.set_cons_zero]
        refine wpAnyH_take (i := 3) (oi := { dst := some 54, op := Go.Op.move (Go.Operand.tmp 0), type := 23, pos := "law.go:226", after := #[], guard := none }) (v := .slice (some ⟨sb, so, none⟩) n cap) rfl (by kernel_rfl) (by kernel_rfl) (by kernel_rfl) (fun _ _ _ h => h) (Or.inl ⟨by kernel_rfl, ?_⟩) hHeld ?_
        · intro V1 hV1; obtain ⟨z0, v0, v1, v2, v3⟩ := hV1; go_simp
        simp only [Act.put, List.setIfInBounds_toArray, List.set_cons_succ, List.set_cons_zero]
        refine wpAnyH_take (i := 4) (oi := { dst := some 55, op := Go.Op.move (Go.Operand.tmp 8), type := 3, pos := "law.go:226", after := #[], guard := none }) (v := .int .i64 (i : Int)) rfl (by kernel_rfl) (by kernel_rfl) (by kernel_rfl) (fun _ _ _ h => h) (Or.inl ⟨by kernel_rfl, ?_⟩) hHeld ?_
        · intro V1 hV1; obtain ⟨z0, v0, v1, v2, v3⟩ := hV1; go_simp
        simp only [Act.put, List.setIfInBounds_toArray, List.set_cons_succ, List.set_cons_zero]
        refine wpAnyH_take (i := 5) (oi := { dst := some 56, op := Go.Op.indexAddr 23 (Go.Operand.tmp 54) (Go.Operand.tmp 55), type := 0, pos := "law.go:226", after := #[{ on := 3, ground := Go.Ground.data }, { on := 4, ground := Go.Ground.data }], guard := none }) (v := .pointer (some ⟨sb, so + i, none⟩)) rfl (by kernel_rfl) (by kernel_rfl) (by kernel_rfl) (fun _ _ _ h => h) (Or.inl ⟨by kernel_rfl, ?_⟩) hHeld ?_
        · intro V1 hV1; obtain ⟨z0, v0, v1, v2, v3⟩ := hV1; go_simp
        simp only [Act.put, List.setIfInBounds_toArray, List.set_cons_succ, List.set_cons_zero]
        refine wpAnyH_take (i := 6) (oi := { dst := some 57, op := Go.Op.load 5 (Go.Operand.tmp 56), type := 5, pos := "law.go:226", after := #[{ on := 5, ground := Go.Ground.data }], guard := none }) (v := .int .u8 z) rfl (by kernel_rfl) (by kernel_rfl) (by kernel_rfl) (fun _ _ _ h => h) (Or.inl ⟨by kernel_rfl, ?_⟩) hHeld ?_
        · intro V1 hV1; obtain ⟨z0, v0, v1, v2, v3⟩ := hV1; go_simp
        simp only [Act.put, List.setIfInBounds_toArray, List.set_cons_succ, List.set_cons_zero]
        refine wpAnyH_take (i := 7) (oi := { dst := some 58, op := Go.Op.binOp Go.BinOp.rem 5 (Go.Operand.tmp 57) (Go.Operand.const (Go.Value.int Go.IntKind.u8 6)) 5, type := 5, pos := "law.go:226", after := #[{ on := 6, ground := Go.Ground.data }], guard := none }) (v := .int .u8 r6) rfl (by kernel_rfl) (by kernel_rfl) (by kernel_rfl) (fun _ _ _ h => h) (Or.inl ⟨by kernel_rfl, ?_⟩) hHeld ?_
        · intro V1 hV1; obtain ⟨z0, v0, v1, v2, v3⟩ := hV1; go_simp
        simp only [Act.put, List.setIfInBounds_toArray, List.set_cons_succ, List.set_cons_zero]
        refine wpAnyH_take (i := 8) (oi := { dst := some 59, op := Go.Op.convert 5 32 (Go.Operand.tmp 58), type := 32, pos := "law.go:226", after := #[{ on := 7, ground := Go.Ground.data }], guard := none }) (v := .int .u64 r6) rfl (by kernel_rfl) (by kernel_rfl) (by kernel_rfl) (fun _ _ _ h => h) (Or.inl ⟨by kernel_rfl, ?_⟩) hHeld ?_
        · intro V1 hV1; obtain ⟨z0, v0, v1, v2, v3⟩ := hV1; go_simp
        simp only [Act.put, List.setIfInBounds_toArray, List.set_cons_succ, List.set_cons_zero]
        refine wpAnyH_take (i := 9) (oi := { dst := some 60, op := Go.Op.binOp Go.BinOp.add 32 (Go.Operand.tmp 59) (Go.Operand.const (Go.Value.int Go.IntKind.u64 1)) 32, type := 32, pos := "law.go:226", after := #[{ on := 8, ground := Go.Ground.data }], guard := none }) (v := .int .u64 st) rfl (by kernel_rfl) (by kernel_rfl) (by kernel_rfl) (fun _ _ _ h => h) (Or.inl ⟨by kernel_rfl, ?_⟩) hHeld ?_
        · intro V1 hV1; obtain ⟨z0, v0, v1, v2, v3⟩ := hV1; go_simp
        simp only [Act.put, List.setIfInBounds_toArray, List.set_cons_succ, List.set_cons_zero]
        refine wpAnyH_take (i := 10) (oi := { dst := some 61, op := Go.Op.build 34 #[], type := 34, pos := "law.go:226", after := #[], guard := none }) (v := .agg #[.int .u64 0, .int .u64 0]) rfl (by kernel_rfl) (by kernel_rfl) (by kernel_rfl) (fun _ _ _ h => h) (Or.inl ⟨by kernel_rfl, ?_⟩) hHeld ?_
        · intro V1 hV1; obtain ⟨z0, v0, v1, v2, v3⟩ := hV1; go_simp
        simp only [Act.put, List.setIfInBounds_toArray, List.set_cons_succ, List.set_cons_zero]
        refine wpAnyH_take (i := 11) (oi := { dst := some 62, op := Go.Op.move (Go.Operand.tmp 1), type := 58, pos := "law.go:226", after := #[], guard := none }) (v := .slice (some ⟨vb, vo, none⟩) m cap2) rfl (by kernel_rfl) (by kernel_rfl) (by kernel_rfl) (fun _ _ _ h => h) (Or.inl ⟨by kernel_rfl, ?_⟩) hHeld ?_
        · intro V1 hV1; obtain ⟨z0, v0, v1, v2, v3⟩ := hV1; go_simp
        simp only [Act.put, List.setIfInBounds_toArray, List.set_cons_succ, List.set_cons_zero]
        refine wpAnyH_take (i := 12) (oi := { dst := some 63, op := Go.Op.move (Go.Operand.tmp 8), type := 3, pos := "law.go:226", after := #[], guard := none }) (v := .int .i64 (i : Int)) rfl (by kernel_rfl) (by kernel_rfl) (by kernel_rfl) (fun _ _ _ h => h) (Or.inl ⟨by kernel_rfl, ?_⟩) hHeld ?_
        · intro V1 hV1; obtain ⟨z0, v0, v1, v2, v3⟩ := hV1; go_simp
        simp only [Act.put, List.setIfInBounds_toArray, List.set_cons_succ, List.set_cons_zero]
        refine wpAnyH_take (i := 13) (oi := { dst := some 64, op := Go.Op.indexAddr 58 (Go.Operand.tmp 62) (Go.Operand.tmp 63), type := 0, pos := "law.go:226", after := #[{ on := 11, ground := Go.Ground.data }, { on := 12, ground := Go.Ground.data }], guard := none }) (v := .pointer (some ⟨vb, vo + i * 4, none⟩)) rfl (by kernel_rfl) (by kernel_rfl) (by kernel_rfl) (fun _ _ _ h => h) (Or.inl ⟨by kernel_rfl, ?_⟩) hHeld ?_
        · intro V1 hV1; obtain ⟨z0, v0, v1, v2, v3⟩ := hV1; go_simp
        simp only [Act.put, List.setIfInBounds_toArray, List.set_cons_succ, List.set_cons_zero]
        refine wpAnyH_take (i := 14) (oi := { dst := some 65, op := Go.Op.load 37 (Go.Operand.tmp 64), type := 37, pos := "law.go:226", after := #[{ on := 13, ground := Go.Ground.data }], guard := none }) (v := .agg #[.int .i64 vk, .int .i64 vn, .float .f64 vf, .string vs]) rfl (by kernel_rfl) (by kernel_rfl) (by kernel_rfl) (fun _ _ _ h => h) (Or.inl ⟨by kernel_rfl, ?_⟩) hHeld ?_
        · intro V1 hV1; obtain ⟨z0, v0, v1, v2, v3⟩ := hV1; go_simp
        simp only [Act.put, List.setIfInBounds_toArray, List.set_cons_succ, List.set_cons_zero]
        refine wpAnyH_ready (rs := [15, 16]) (by kernel_rfl) (by simp) ?_
        refine AllReadyH.cons (o := { dst := some 66, op := Go.Op.call { callee := Go.Callee.value (Go.Operand.func 15), args := #[Go.Operand.tmp 53, Go.Operand.tmp 60, Go.Operand.tmp 61, Go.Operand.const (Go.Value.string { data := #[107] }), Go.Operand.tmp 65], argTypes := #[32, 32, 34, 9, 37] }, type := 41, pos := "law.go:226", after := #[{ on := 2, ground := Go.Ground.data }, { on := 9, ground := Go.Ground.data }, { on := 10, ground := Go.Ground.data }, { on := 14, ground := Go.Ground.data }], guard := none }) rfl (fun K hK => ?_) (AllReadyH.cons (o := { dst := some 9, op := Go.Op.alloc 41, type := 0, pos := "law.go:226", after := #[], guard := none }) rfl (fun K hK => ?_) AllReadyH.nil)
        · rw [if_pos (by kernel_rfl)]
          go_simp
          refine (HSet.out U9).mono ?_
          rintro e w2 ⟨rfl, t2⟩
          have HT2 : Hid (Touch (fun _ => False) w w2 ∧ Touch (fun _ => False) wr w2) := ⟨HTV.out.1.trans t2, HTV.out.2.trans t2⟩
          clear t2
          refine hK.out _ _ (HS.out _ HT2.out.1) (fun hHeld => ?_)
          clear hK K
          refine wpAnyH_ready (rs := [16]) (by kernel_rfl) (by simp) ?_
          refine AllReadyH.cons (o := { dst := some 9, op := Go.Op.alloc 41, type := 0, pos := "law.go:226", after := #[], guard := none }) rfl (fun K hK => ?_) AllReadyH.nil
          rw [if_pos (by kernel_rfl)]
          refine wpO_of_run (v := .pointer (some ⟨w2.heap.size, 0, none⟩)) (w' := w2.alloc zeroOp) ?_ ?_
          · go_simp
          simp only [Act.put, List.setIfInBounds_toArray, List.set_cons_succ, List.set_cons_zero]
          have HT3 : Hid (Touch (fun _ => False) w (w2.alloc zeroOp) ∧ Touch (fun _ => False) wr (w2.alloc zeroOp)) := ⟨HT2.out.1.alloc _, HT2.out.2.alloc _⟩
          refine hK.out _ _ (HS.out _ HT3.out.1) (fun hHeld => ?_)
          clear hK K
          obtain ⟨Y, hY⟩ : ∃ X, Hid (X = w2.heap.size) := ⟨_, Eq.refl _⟩
          obtain ⟨W3, hW3⟩ : ∃ W3, Hid (W3 = w2.alloc zeroOp) := ⟨_, Eq.refl _⟩
          have HBX : Hid (OpAt Y zeroO W3 ∧ wr.heap.size ≤ Y) := by
            rw [hY.out, hW3.out]
            exact ⟨heap_alloc_new _ _, HT2.out.2.size⟩
          rw [← hY.out, ← hW3.out]
          rw [← hW3.out] at HT3 hHeld
          clear hY hW3 HT2
          refine wpAnyH_ready (rs := [17]) (by kernel_rfl) (by simp) ?_
          refine AllReadyH.cons (o := { dst := none, op := Go.Op.store 41 (Go.Operand.tmp 9) (Go.Operand.tmp 66), type := 0, pos := "law.go:226", after := #[{ on := 16, ground := Go.Ground.data }, { on := 15, ground := Go.Ground.data }, { on := 15, ground := Go.Ground.chain }, { on := 0, ground := Go.Ground.phase }, { on := 1, ground := Go.Ground.phase }, { on := 2, ground := Go.Ground.phase }, { on := 3, ground := Go.Ground.phase }, { on := 4, ground := Go.Ground.phase }, { on := 5, ground := Go.Ground.phase }, { on := 6, ground := Go.Ground.phase }, { on := 7, ground := Go.Ground.phase }, { on := 8, ground := Go.Ground.phase }, { on := 9, ground := Go.Ground.phase }, { on := 10, ground := Go.Ground.phase }, { on := 11, ground := Go.Ground.phase }, { on := 12, ground := Go.Ground.phase }, { on := 13, ground := Go.Ground.phase }, { on := 14, ground := Go.Ground.phase }, { on := 15, ground := Go.Ground.phase }, { on := 16, ground := Go.Ground.phase }], guard := none }) rfl (fun K hK => ?_) AllReadyH.nil
          rw [if_pos (by kernel_rfl)]
          refine wp_store_mid 41 (.tmp 9) (.tmp 66) rfl Y 0 o0.vals rfl rfl (HBX.out.1.there 0 22 (by decide)) (by kernel_rfl) (by kernel_rfl) ?_
          simp only [Act.put]
          have HT4 : Hid (Touch (fun _ => False) w (W3.setCells Y 0 o0.vals.toList) ∧ Touch (fun _ => False) wr (W3.setCells Y 0 o0.vals.toList) ∧ OpAt Y o0 (W3.setCells Y 0 o0.vals.toList) ∧ wr.heap.size ≤ Y) := by
            have h1 := HBX.out.2
            have h2 := HTw.out.size
            exact ⟨HT3.out.1.stores (by omega) 0 _, HT3.out.2.stores (by omega) 0 _, HBX.out.1.store0, h1⟩
          obtain ⟨W4, hW4⟩ : ∃ W4, Hid (W4 = W3.setCells Y 0 o0.vals.toList) := ⟨_, Eq.refl _⟩
          rw [← hW4.out] at HT4 ⊢
          clear hW4 HT3 HBX
          refine hK.out _ _ (HS.out _ HT4.out.1) (fun hHeld => ?_)
          clear hK K
          refine wpAnyH_done (by kernel_rfl) ?_ _
          try simp only [List.getElem_toArray, List.getElem_cons_succ, List.getElem_cons_zero, List.setIfInBounds_toArray, List.set_cons_succ, List.set_cons_zero]
          clear hHeld
          generalize Value.agg o0.vals = vo0
          obtain ⟨z0, v0, v1, v2, v3⟩ := HS.out _ HT4.out.1
          clear v0 v1 v2 v3
          have q0 := HT4.out.2.2.1.q0
          have fr0 : W4.frozen? ⟨Y, 0, none⟩ = false := free_of_block HT4.out.2.2.1
          go_upto_region 14 with fail
          obtain ⟨W5, hW5⟩ : ∃ W5, Hid (W5 = W4.setCell ⟨Y, 0, none⟩ (.int .u64 cl)) := ⟨_, Eq.refl _⟩
          have HT5 : Hid (Touch (fun _ => False) w W5 ∧ Touch (fun _ => False) wr W5 ∧ OpAt Y o1 W5 ∧ wr.heap.size ≤ Y) := by
            have h1 := HT4.out.2.2.2
            have h2 := HTw.out.size
            refine ⟨?_, ?_, ?_, h1⟩
            · rw [hW5.out]; exact HT4.out.1.setCell _ _ (fun h => by simp only at h; omega)
            · rw [hW5.out]; exact HT4.out.2.1.setCell _ _ (fun h => by simp only at h; omega)
            · rw [hW5.out]
              unfold OpAt
              rw [heap_setCell_same _ _ _ _ HT4.out.2.2.1, ho1.out, ho0.out]
              rfl
          rw [← hW5.out]
          clear hW5 HT4 q0 fr0 z0
          refine wp_region_lit ?_
          refine wpList_load_mid rfl 41 (.tmp 9) rfl Y 0 rfl o1.vals.toList _ (rangeAt_of HT5.out.2.2.1) Try.underlying41 rfl (by kernel_rfl) ?_
          simp only [Act.put, List.setIfInBounds_toArray, List.set_cons_succ, List.set_cons_zero]
          refine wpList_plain rfl fun K hK => ?_
          go_simp
          refine (HCk.out W5).mono ?_
          rintro e W6 ⟨rfl, t6⟩
          refine hK _ _ ?_
          clear hK K
          have HT6 : Hid (Touch (fun _ => False) w W6 ∧ Touch (fun _ => False) wr W6 ∧ OpAt Y o1 W6 ∧ wr.heap.size ≤ Y) := ⟨HT5.out.1.trans t6, HT5.out.2.1.trans t6, HT5.out.2.2.1.keep t6, HT5.out.2.2.2⟩
          clear t6 HT5
          generalize Value.agg o1.vals = vo1
          iterate 1 (refine wpList_plain rfl fun K hK => ?_; go_simp; refine hK _ _ ?_; clear hK K)
          by_cases he0 : er = 0
          rotate_left
          · have he1 : (er == 0) = false := by simpa using he0
            go_wp2_with fail
            go_ret
            exact ⟨rfl, HT6.out.1⟩
          · subst he0
            have HL6 : Hid (Lv w1 (fun k => k = X0 ∨ k = Y) W6 g s L ∧ OpAt X0 b W6 ∧ OpAt Y o1 W6) := by
              refine ⟨HR.out.1.box HT6.out.2.1 HT6.out.2.2.2 (lt_of_heap HT6.out.2.2.1), HR.out.2.1.keep HT6.out.2.1, HT6.out.2.2.1⟩
            have HXY : Hid (w1.heap.size ≤ X0 ∧ X0 < Y) := ⟨HX0.out, by have h1 := lt_of_heap HR.out.2.1; have h2 := HT6.out.2.2.2; omega⟩
            have HC := lv_set HL6.out.1 o1 Hfo.out.1 (by rw [Hfo.out.2.1]; decide) (by have := HR.out.2.2.2.1; have := Hil.out; omega) Hfo.out.2.2.1
            have HCh : Hid (Calls Try.prog 10 #[.pointer (some ⟨g, 0, none⟩), .agg o1.vals] W6 fun e w' => e = .returned (.bool true) ∧ Lv w1 (fun k => k = X0 ∨ k = Y) w' g (setS s o1) (L ++ [o1]) ∧ Kept (fun k => k = X0 ∨ k = Y) W6 w') := HC
            clear HC
            go_upto_region 16 with fail
            refine wp_region_lit ?_
            iterate 1 (refine wpList_plain rfl fun K hK => ?_; go_simp; refine hK _ _ ?_; clear hK K)
            refine wpList_load_mid rfl 41 (.tmp 9) rfl Y 0 rfl o1.vals.toList _ (rangeAt_of HL6.out.2.2) Try.underlying41 rfl (by kernel_rfl) ?_
            simp only [Act.put, List.setIfInBounds_toArray, List.set_cons_succ, List.set_cons_zero]
            refine wpList_plain rfl fun K hK => ?_
            go_simp
            refine HCh.out.mono ?_
            rintro e W7 ⟨rfl, hl7, hk7⟩
            refine hK _ _ ?_
            clear hK K
            have HL7 : Hid (Lv w1 (fun k => k = X0 ∨ k = Y) W7 g (setS s o1) (L ++ [o1]) ∧ OpAt X0 b W7 ∧ OpAt Y o1 W7) := ⟨hl7, (hk7 X0 (.inl rfl)).trans HL6.out.2.1, (hk7 Y (.inr rfl)).trans HL6.out.2.2⟩
            clear hl7 hk7 HCh HL6 HT6
            generalize Value.agg o1.vals = vo2
            -- the state behind the set
            have HS2 : Hid ((setS s o1).hid = [] ∧ (L ++ [o1]).length = i + 1 ∧ ∀ o ∈ L ++ [o1], o.pc = 0 ∧ o.pk = 0 ∧ o.ky = kK ∧ o.vk ≠ 5 ∧ o.k ≤ ((i + 1 : Nat) : Int)) := by
              refine ⟨by rw [hid_set]; exact HR.out.2.2.1, by simp [HR.out.2.2.2.1], fun o ho => ?_⟩
              rcases List.mem_append.1 ho with ho | ho
              · have := HR.out.2.2.2.2.1 o ho
                exact ⟨this.1, this.2.1, this.2.2.1, this.2.2.2.1, by have := this.2.2.2.2; omega⟩
              · rw [List.mem_singleton] at ho
                subst ho
                exact Hfo.out.2.2.2
            have x0 := HL7.out.2.1.q0
            have x1 := HL7.out.2.1.q1
            have x3 := HL7.out.2.1.q3
            have y0 := HL7.out.2.2.q0
            have y1 := HL7.out.2.2.q1
            have y3 := HL7.out.2.2.q3
            -- keeping the best
            have HKEEP : isb = true → lessM b o1 = false → Hid (Lv w1 (fun k => k = X0) W7 g (setS s o1) (L ++ [o1]) ∧ OpAt X0 b W7 ∧ (setS s o1).hid = [] ∧ (L ++ [o1]).length = i + 1 ∧ (∀ o ∈ L ++ [o1], o.pc = 0 ∧ o.pk = 0 ∧ o.ky = kK ∧ o.vk ≠ 5 ∧ o.k ≤ ((i + 1 : Nat) : Int)) ∧ BestOf isb b (L ++ [o1])) := fun h1 h2 => by
              refine ⟨HL7.out.1.weaken fun k hk => .inl hk, HL7.out.2.1, HS2.out.1, HS2.out.2.1, HS2.out.2.2, Or.inr ⟨h1, ?_⟩⟩
              rcases HR.out.2.2.2.2.2 with ⟨e, _⟩ | ⟨_, hb, hm⟩
              · rw [h1] at e; cases e
              · refine ⟨by simp [hb], fun o ho => ?_⟩
                rcases List.mem_append.1 ho with ho | ho
                · exact hm o ho
                · rw [List.mem_singleton] at ho
                  subst ho
                  have hkb := (HR.out.2.2.2.2.1 b hb).2.2.2.2
                  refine .inr (lessM_iff.2 ?_)
                  rw [lessM_not] at h2
                  have hk1 := Hk1.out
                  omega
            -- taking the new one
            have HTAKE : (isb = false ∨ lessM b o1 = true) → ∀ W8, Touch (fun k => k = X0) W7 W8 → OpAt X0 o1 W8 → Hid (Lv w1 (fun k => k = X0) W8 g (setS s o1) (L ++ [o1]) ∧ OpAt X0 o1 W8 ∧ (setS s o1).hid = [] ∧ (L ++ [o1]).length = i + 1 ∧ (∀ o ∈ L ++ [o1], o.pc = 0 ∧ o.pk = 0 ∧ o.ky = kK ∧ o.vk ≠ 5 ∧ o.k ≤ ((i + 1 : Nat) : Int)) ∧ BestOf true o1 (L ++ [o1])) := fun h1 W8 t8 h8 => by
              refine ⟨(HL7.out.1.weaken (K' := fun k => k = X0) fun k hk => .inl hk).stored t8 rfl HXY.out.1, h8, HS2.out.1, HS2.out.2.1, HS2.out.2.2, Or.inr ⟨rfl, by simp, fun o ho => ?_⟩⟩
              rcases List.mem_append.1 ho with ho | ho
              · rcases HR.out.2.2.2.2.2 with ⟨_, e⟩ | ⟨e, hb, hm⟩
                · rw [e] at ho; cases ho
                · rcases h1 with h1 | h1
                  · rw [e] at h1; cases h1
                  · refine .inr ?_
                    rcases hm o ho with rfl | q
                    · exact h1
                    · exact lessM_ok.trans _ _ _ q h1
              · rw [List.mem_singleton] at ho
                exact .inl ho
            have HTh : Hid (OpAt X0 b W7) := HL7.out.2.1
            have HYh : Hid (OpAt Y o1 W7) := HL7.out.2.2
            clear HL7 HS2 HR HXY Hfo HCk HSet HS Hk1
            by_cases hcond : isb = false ∨ lessM b o1 = true
            · have HQ := HTAKE hcond
              have HQh : Hid (∀ W8, Touch (fun k => k = X0) W7 W8 → OpAt X0 o1 W8 → _) := HQ
              clear HQ HKEEP HTAKE
              have hcond2 : isb = false ∨ (b.st < o1.st ∨ (b.st = o1.st ∧ (b.c < o1.c ∨ (b.c = o1.c ∧ b.k < o1.k)))) := hcond.imp id lessM_iff.1
              clear hcond
              generalize hbst : b.st = bst at x3 hcond2
              generalize hbc : b.c = bc at x0 hcond2
              generalize hbk : b.k = bk at x1 hcond2
              generalize host : o1.st = ost at y3 hcond2
              generalize hoc : o1.c = oc at y0 hcond2
              generalize hok : o1.k = ok at y1 hcond2
              clear hbst hbc hbk host hoc hok
              have hsplit : isb = false ∨ (isb = true ∧ bst < ost) ∨ (isb = true ∧ ¬ bst < ost ∧ bst = ost ∧ bc < oc) ∨ (isb = true ∧ ¬ bst < ost ∧ bst = ost ∧ ¬ bc < oc ∧ bc = oc ∧ bk < ok) := by
                cases isb with
                | false => exact .inl rfl
                | true =>
                  rcases hcond2 with e | e
                  · cases e
                  · right
                    rcases e with e | ⟨e1, e | ⟨e2, e3⟩⟩
                    · exact .inl ⟨rfl, e⟩
                    · exact .inr (.inl ⟨rfl, by omega, e1, e⟩)
                    · exact .inr (.inr ⟨rfl, by omega, e1, by omega, e2, e3⟩)
              clear hcond2
              rcases hsplit with e | ⟨e, e1⟩ | ⟨e, e1, e2, e3⟩ | ⟨e, e1, e2, e3, e4, e5⟩
              all_goals (
                subst e
                try (have e2' : (bst == ost) = true := by simpa using e2)
                try (have e4' : (bc == oc) = true := by simpa using e4)
                go_upto_region 18 with fail
                refine wp_region_lit ?_
                refine wpList_load_mid rfl 41 (.tmp 9) rfl Y 0 rfl o1.vals.toList _ (rangeAt_of HYh.out) Try.underlying41 rfl (by kernel_rfl) ?_
                simp only [Act.put, List.setIfInBounds_toArray, List.set_cons_succ, List.set_cons_zero]
                refine wpList_store_mid rfl 41 (.tmp 6) (.tmp 125) rfl X0 0 o1.vals rfl rfl (HTh.out.there 0 22 (by decide)) (by kernel_rfl) (by kernel_rfl) ?_
                simp only [Act.put]
                obtain ⟨W8, hW8⟩ : ∃ W8, Hid (W8 = W7.setCells X0 0 o1.vals.toList) := ⟨_, Eq.refl _⟩
                have HF8 := HQh.out W8 (by rw [hW8.out]; exact Touch.cells X0 _ 0 W7) (by rw [hW8.out]; exact HTh.out.store0)
                rw [← hW8.out]
                clear hW8 HQh HTh HYh x0 x1 x3 y0 y1 y3
                generalize Value.agg o1.vals = vo3
                go_wp2_with fail
                go_roundg (zs.length - (i + 1))
                first | (case measure => have := Hil.out; omega) | skip)
              all_goals exact ⟨i + 1, L ++ [o1], setS s o1, o1, true, by have := Hil.out; omega, rfl, by rw [Hck.out], by have := Hil.out; omega, HF8⟩
            · have hne : isb = true := by cases isb with
                | false => exact absurd (.inl rfl) hcond
                | true => rfl
              have hlm : lessM b o1 = false := by cases e : lessM b o1 with
                | false => rfl
                | true => exact absurd (.inr e) hcond
              have HF8 := HKEEP hne hlm
              have hnot := lessM_not.1 hlm
              clear HTAKE HKEEP hcond hlm
              generalize hbst : b.st = bst at x3 hnot
              generalize hbc : b.c = bc at x0 hnot
              generalize hbk : b.k = bk at x1 hnot
              generalize host : o1.st = ost at y3 hnot
              generalize hoc : o1.c = oc at y0 hnot
              generalize hok : o1.k = ok at y1 hnot
              clear hbst hbc hbk host hoc hok
              have hsplit : (¬ bst < ost ∧ ¬ bst = ost) ∨ (¬ bst < ost ∧ bst = ost ∧ ¬ bc < oc ∧ ¬ bc = oc) ∨ (¬ bst < ost ∧ bst = ost ∧ ¬ bc < oc ∧ bc = oc ∧ ¬ bk < ok) := by omega
              clear hnot
              subst hne
              rcases hsplit with ⟨e1, e2⟩ | ⟨e1, e2, e3, e4⟩ | ⟨e1, e2, e3, e4, e5⟩
              all_goals (
                first
                  | (have e2' : (bst == ost) = true := by simpa using e2)
                  | (have e2' : (bst == ost) = false := by simpa using e2)
                try (first
                  | (have e4' : (bc == oc) = true := by simpa using e4)
                  | (have e4' : (bc == oc) = false := by simpa using e4))
                clear HTh HYh
                go_wp2_with fail
                go_roundg (zs.length - (i + 1))
                first | (case measure => have := Hil.out; omega) | skip)
              all_goals exact ⟨i + 1, L ++ [o1], setS s o1, b, true, by have := Hil.out; omega, rfl, by rw [Hck.out], by have := Hil.out; omega, HF8⟩
        · rw [if_pos (by kernel_rfl)]
          refine wpO_of_run (v := .pointer (some ⟨U9.heap.size, 0, none⟩)) (w' := U9.alloc zeroOp) ?_ ?_
          · go_simp
          simp only [Act.put, List.setIfInBounds_toArray, List.set_cons_succ, List.set_cons_zero]
          have HT2 : Hid (Touch (fun _ => False) w (U9.alloc zeroOp) ∧ Touch (fun _ => False) wr (U9.alloc zeroOp)) := ⟨HTV.out.1.alloc _, HTV.out.2.alloc _⟩
          refine hK.out _ _ (HS.out _ HT2.out.1) (fun hHeld => ?_)
          clear hK K
          obtain ⟨Y, hY⟩ : ∃ X, Hid (X = U9.heap.size) := ⟨_, Eq.refl _⟩
          obtain ⟨w2, hw2⟩ : ∃ W3, Hid (W3 = U9.alloc zeroOp) := ⟨_, Eq.refl _⟩
          have HBX2 : Hid (OpAt Y zeroO w2 ∧ wr.heap.size ≤ Y) := by
            rw [hY.out, hw2.out]
            exact ⟨heap_alloc_new _ _, HTV.out.2.size⟩
          rw [← hY.out, ← hw2.out]
          rw [← hw2.out] at HT2 hHeld
          clear hY hw2
          refine wpAnyH_ready (rs := [15]) (by kernel_rfl) (by simp) ?_
          refine AllReadyH.cons (o := { dst := some 66, op := Go.Op.call { callee := Go.Callee.value (Go.Operand.func 15), args := #[Go.Operand.tmp 53, Go.Operand.tmp 60, Go.Operand.tmp 61, Go.Operand.const (Go.Value.string { data := #[107] }), Go.Operand.tmp 65], argTypes := #[32, 32, 34, 9, 37] }, type := 41, pos := "law.go:226", after := #[{ on := 2, ground := Go.Ground.data }, { on := 9, ground := Go.Ground.data }, { on := 10, ground := Go.Ground.data }, { on := 14, ground := Go.Ground.data }], guard := none }) rfl (fun K hK => ?_) AllReadyH.nil
          rw [if_pos (by kernel_rfl)]
          go_simp
          refine (HSet.out w2).mono ?_
          rintro e W3 ⟨rfl, t2⟩
          have HT3 : Hid (Touch (fun _ => False) w W3 ∧ Touch (fun _ => False) wr W3) := ⟨HT2.out.1.trans t2, HT2.out.2.trans t2⟩
          have HBX : Hid (OpAt Y zeroO W3 ∧ wr.heap.size ≤ Y) := ⟨HBX2.out.1.keep t2, HBX2.out.2⟩
          clear t2 HBX2 HT2
          refine hK.out _ _ (HS.out _ HT3.out.1) (fun hHeld => ?_)
          clear hK K
          refine wpAnyH_ready (rs := [17]) (by kernel_rfl) (by simp) ?_
          refine AllReadyH.cons (o := { dst := none, op := Go.Op.store 41 (Go.Operand.tmp 9) (Go.Operand.tmp 66), type := 0, pos := "law.go:226", after := #[{ on := 16, ground := Go.Ground.data }, { on := 15, ground := Go.Ground.data }, { on := 15, ground := Go.Ground.chain }, { on := 0, ground := Go.Ground.phase }, { on := 1, ground := Go.Ground.phase }, { on := 2, ground := Go.Ground.phase }, { on := 3, ground := Go.Ground.phase }, { on := 4, ground := Go.Ground.phase }, { on := 5, ground := Go.Ground.phase }, { on := 6, ground := Go.Ground.phase }, { on := 7, ground := Go.Ground.phase }, { on := 8, ground := Go.Ground.phase }, { on := 9, ground := Go.Ground.phase }, { on := 10, ground := Go.Ground.phase }, { on := 11, ground := Go.Ground.phase }, { on := 12, ground := Go.Ground.phase }, { on := 13, ground := Go.Ground.phase }, { on := 14, ground := Go.Ground.phase }, { on := 15, ground := Go.Ground.phase }, { on := 16, ground := Go.Ground.phase }], guard := none }) rfl (fun K hK => ?_) AllReadyH.nil
          rw [if_pos (by kernel_rfl)]
          refine wp_store_mid 41 (.tmp 9) (.tmp 66) rfl Y 0 o0.vals rfl rfl (HBX.out.1.there 0 22 (by decide)) (by kernel_rfl) (by kernel_rfl) ?_
          simp only [Act.put]
          have HT4 : Hid (Touch (fun _ => False) w (W3.setCells Y 0 o0.vals.toList) ∧ Touch (fun _ => False) wr (W3.setCells Y 0 o0.vals.toList) ∧ OpAt Y o0 (W3.setCells Y 0 o0.vals.toList) ∧ wr.heap.size ≤ Y) := by
            have h1 := HBX.out.2
            have h2 := HTw.out.size
            exact ⟨HT3.out.1.stores (by omega) 0 _, HT3.out.2.stores (by omega) 0 _, HBX.out.1.store0, h1⟩
          obtain ⟨W4, hW4⟩ : ∃ W4, Hid (W4 = W3.setCells Y 0 o0.vals.toList) := ⟨_, Eq.refl _⟩
          rw [← hW4.out] at HT4 ⊢
          clear hW4 HT3 HBX
          refine hK.out _ _ (HS.out _ HT4.out.1) (fun hHeld => ?_)
          clear hK K
          refine wpAnyH_done (by kernel_rfl) ?_ _
          try simp only [List.getElem_toArray, List.getElem_cons_succ, List.getElem_cons_zero, List.setIfInBounds_toArray, List.set_cons_succ, List.set_cons_zero]
          clear hHeld
          generalize Value.agg o0.vals = vo0
          obtain ⟨z0, v0, v1, v2, v3⟩ := HS.out _ HT4.out.1
          clear v0 v1 v2 v3
          have q0 := HT4.out.2.2.1.q0
          have fr0 : W4.frozen? ⟨Y, 0, none⟩ = false := free_of_block HT4.out.2.2.1
          go_upto_region 14 with fail
          obtain ⟨W5, hW5⟩ : ∃ W5, Hid (W5 = W4.setCell ⟨Y, 0, none⟩ (.int .u64 cl)) := ⟨_, Eq.refl _⟩
          have HT5 : Hid (Touch (fun _ => False) w W5 ∧ Touch (fun _ => False) wr W5 ∧ OpAt Y o1 W5 ∧ wr.heap.size ≤ Y) := by
            have h1 := HT4.out.2.2.2
            have h2 := HTw.out.size
            refine ⟨?_, ?_, ?_, h1⟩
            · rw [hW5.out]; exact HT4.out.1.setCell _ _ (fun h => by simp only at h; omega)
            · rw [hW5.out]; exact HT4.out.2.1.setCell _ _ (fun h => by simp only at h; omega)
            · rw [hW5.out]
              unfold OpAt
              rw [heap_setCell_same _ _ _ _ HT4.out.2.2.1, ho1.out, ho0.out]
              rfl
          rw [← hW5.out]
          clear hW5 HT4 q0 fr0 z0
          refine wp_region_lit ?_
          refine wpList_load_mid rfl 41 (.tmp 9) rfl Y 0 rfl o1.vals.toList _ (rangeAt_of HT5.out.2.2.1) Try.underlying41 rfl (by kernel_rfl) ?_
          simp only [Act.put, List.setIfInBounds_toArray, List.set_cons_succ, List.set_cons_zero]
          refine wpList_plain rfl fun K hK => ?_
          go_simp
          refine (HCk.out W5).mono ?_
          rintro e W6 ⟨rfl, t6⟩
          refine hK _ _ ?_
          clear hK K
          have HT6 : Hid (Touch (fun _ => False) w W6 ∧ Touch (fun _ => False) wr W6 ∧ OpAt Y o1 W6 ∧ wr.heap.size ≤ Y) := ⟨HT5.out.1.trans t6, HT5.out.2.1.trans t6, HT5.out.2.2.1.keep t6, HT5.out.2.2.2⟩
          clear t6 HT5
          generalize Value.agg o1.vals = vo1
          iterate 1 (refine wpList_plain rfl fun K hK => ?_; go_simp; refine hK _ _ ?_; clear hK K)
          by_cases he0 : er = 0
          rotate_left
          · have he1 : (er == 0) = false := by simpa using he0
            go_wp2_with fail
            go_ret
            exact ⟨rfl, HT6.out.1⟩
          · subst he0
            have HL6 : Hid (Lv w1 (fun k => k = X0 ∨ k = Y) W6 g s L ∧ OpAt X0 b W6 ∧ OpAt Y o1 W6) := by
              refine ⟨HR.out.1.box HT6.out.2.1 HT6.out.2.2.2 (lt_of_heap HT6.out.2.2.1), HR.out.2.1.keep HT6.out.2.1, HT6.out.2.2.1⟩
            have HXY : Hid (w1.heap.size ≤ X0 ∧ X0 < Y) := ⟨HX0.out, by have h1 := lt_of_heap HR.out.2.1; have h2 := HT6.out.2.2.2; omega⟩
            have HC := lv_set HL6.out.1 o1 Hfo.out.1 (by rw [Hfo.out.2.1]; decide) (by have := HR.out.2.2.2.1; have := Hil.out; omega) Hfo.out.2.2.1
            have HCh : Hid (Calls Try.prog 10 #[.pointer (some ⟨g, 0, none⟩), .agg o1.vals] W6 fun e w' => e = .returned (.bool true) ∧ Lv w1 (fun k => k = X0 ∨ k = Y) w' g (setS s o1) (L ++ [o1]) ∧ Kept (fun k => k = X0 ∨ k = Y) W6 w') := HC
            clear HC
            go_upto_region 16 with fail
            refine wp_region_lit ?_
            iterate 1 (refine wpList_plain rfl fun K hK => ?_; go_simp; refine hK _ _ ?_; clear hK K)
            refine wpList_load_mid rfl 41 (.tmp 9) rfl Y 0 rfl o1.vals.toList _ (rangeAt_of HL6.out.2.2) Try.underlying41 rfl (by kernel_rfl) ?_
            simp only [Act.put, List.setIfInBounds_toArray, List.set_cons_succ, List.set_cons_zero]
            refine wpList_plain rfl fun K hK => ?_
            go_simp
            refine HCh.out.mono ?_
            rintro e W7 ⟨rfl, hl7, hk7⟩
            refine hK _ _ ?_
            clear hK K
            have HL7 : Hid (Lv w1 (fun k => k = X0 ∨ k = Y) W7 g (setS s o1) (L ++ [o1]) ∧ OpAt X0 b W7 ∧ OpAt Y o1 W7) := ⟨hl7, (hk7 X0 (.inl rfl)).trans HL6.out.2.1, (hk7 Y (.inr rfl)).trans HL6.out.2.2⟩
            clear hl7 hk7 HCh HL6 HT6
            generalize Value.agg o1.vals = vo2
            -- the state behind the set
            have HS2 : Hid ((setS s o1).hid = [] ∧ (L ++ [o1]).length = i + 1 ∧ ∀ o ∈ L ++ [o1], o.pc = 0 ∧ o.pk = 0 ∧ o.ky = kK ∧ o.vk ≠ 5 ∧ o.k ≤ ((i + 1 : Nat) : Int)) := by
              refine ⟨by rw [hid_set]; exact HR.out.2.2.1, by simp [HR.out.2.2.2.1], fun o ho => ?_⟩
              rcases List.mem_append.1 ho with ho | ho
              · have := HR.out.2.2.2.2.1 o ho
                exact ⟨this.1, this.2.1, this.2.2.1, this.2.2.2.1, by have := this.2.2.2.2; omega⟩
              · rw [List.mem_singleton] at ho
                subst ho
                exact Hfo.out.2.2.2
            have x0 := HL7.out.2.1.q0
            have x1 := HL7.out.2.1.q1
            have x3 := HL7.out.2.1.q3
            have y0 := HL7.out.2.2.q0
            have y1 := HL7.out.2.2.q1
            have y3 := HL7.out.2.2.q3
            -- keeping the best
            have HKEEP : isb = true → lessM b o1 = false → Hid (Lv w1 (fun k => k = X0) W7 g (setS s o1) (L ++ [o1]) ∧ OpAt X0 b W7 ∧ (setS s o1).hid = [] ∧ (L ++ [o1]).length = i + 1 ∧ (∀ o ∈ L ++ [o1], o.pc = 0 ∧ o.pk = 0 ∧ o.ky = kK ∧ o.vk ≠ 5 ∧ o.k ≤ ((i + 1 : Nat) : Int)) ∧ BestOf isb b (L ++ [o1])) := fun h1 h2 => by
              refine ⟨HL7.out.1.weaken fun k hk => .inl hk, HL7.out.2.1, HS2.out.1, HS2.out.2.1, HS2.out.2.2, Or.inr ⟨h1, ?_⟩⟩
              rcases HR.out.2.2.2.2.2 with ⟨e, _⟩ | ⟨_, hb, hm⟩
              · rw [h1] at e; cases e
              · refine ⟨by simp [hb], fun o ho => ?_⟩
                rcases List.mem_append.1 ho with ho | ho
                · exact hm o ho
                · rw [List.mem_singleton] at ho
                  subst ho
                  have hkb := (HR.out.2.2.2.2.1 b hb).2.2.2.2
                  refine .inr (lessM_iff.2 ?_)
                  rw [lessM_not] at h2
                  have hk1 := Hk1.out
                  omega
            -- taking the new one
            have HTAKE : (isb = false ∨ lessM b o1 = true) → ∀ W8, Touch (fun k => k = X0) W7 W8 → OpAt X0 o1 W8 → Hid (Lv w1 (fun k => k = X0) W8 g (setS s o1) (L ++ [o1]) ∧ OpAt X0 o1 W8 ∧ (setS s o1).hid = [] ∧ (L ++ [o1]).length = i + 1 ∧ (∀ o ∈ L ++ [o1], o.pc = 0 ∧ o.pk = 0 ∧ o.ky = kK ∧ o.vk ≠ 5 ∧ o.k ≤ ((i + 1 : Nat) : Int)) ∧ BestOf true o1 (L ++ [o1])) := fun h1 W8 t8 h8 => by
              refine ⟨(HL7.out.1.weaken (K' := fun k => k = X0) fun k hk => .inl hk).stored t8 rfl HXY.out.1, h8, HS2.out.1, HS2.out.2.1, HS2.out.2.2, Or.inr ⟨rfl, by simp, fun o ho => ?_⟩⟩
              rcases List.mem_append.1 ho with ho | ho
              · rcases HR.out.2.2.2.2.2 with ⟨_, e⟩ | ⟨e, hb, hm⟩
                · rw [e] at ho; cases ho
                · rcases h1 with h1 | h1
                  · rw [e] at h1; cases h1
                  · refine .inr ?_
                    rcases hm o ho with rfl | q
                    · exact h1
                    · exact lessM_ok.trans _ _ _ q h1
              · rw [List.mem_singleton] at ho
                exact .inl ho
            have HTh : Hid (OpAt X0 b W7) := HL7.out.2.1
            have HYh : Hid (OpAt Y o1 W7) := HL7.out.2.2
            clear HL7 HS2 HR HXY Hfo HCk HSet HS Hk1
            by_cases hcond : isb = false ∨ lessM b o1 = true
            · have HQ := HTAKE hcond
              have HQh : Hid (∀ W8, Touch (fun k => k = X0) W7 W8 → OpAt X0 o1 W8 → _) := HQ
              clear HQ HKEEP HTAKE
              have hcond2 : isb = false ∨ (b.st < o1.st ∨ (b.st = o1.st ∧ (b.c < o1.c ∨ (b.c = o1.c ∧ b.k < o1.k)))) := hcond.imp id lessM_iff.1
              clear hcond
              generalize hbst : b.st = bst at x3 hcond2
              generalize hbc : b.c = bc at x0 hcond2
              generalize hbk : b.k = bk at x1 hcond2
              generalize host : o1.st = ost at y3 hcond2
              generalize hoc : o1.c = oc at y0 hcond2
              generalize hok : o1.k = ok at y1 hcond2
              clear hbst hbc hbk host hoc hok
              have hsplit : isb = false ∨ (isb = true ∧ bst < ost) ∨ (isb = true ∧ ¬ bst < ost ∧ bst = ost ∧ bc < oc) ∨ (isb = true ∧ ¬ bst < ost ∧ bst = ost ∧ ¬ bc < oc ∧ bc = oc ∧ bk < ok) := by
                cases isb with
                | false => exact .inl rfl
                | true =>
                  rcases hcond2 with e | e
                  · cases e
                  · right
                    rcases e with e | ⟨e1, e | ⟨e2, e3⟩⟩
                    · exact .inl ⟨rfl, e⟩
                    · exact .inr (.inl ⟨rfl, by omega, e1, e⟩)
                    · exact .inr (.inr ⟨rfl, by omega, e1, by omega, e2, e3⟩)
              clear hcond2
              rcases hsplit with e | ⟨e, e1⟩ | ⟨e, e1, e2, e3⟩ | ⟨e, e1, e2, e3, e4, e5⟩
              all_goals (
                subst e
                try (have e2' : (bst == ost) = true := by simpa using e2)
                try (have e4' : (bc == oc) = true := by simpa using e4)
                go_upto_region 18 with fail
                refine wp_region_lit ?_
                refine wpList_load_mid rfl 41 (.tmp 9) rfl Y 0 rfl o1.vals.toList _ (rangeAt_of HYh.out) Try.underlying41 rfl (by kernel_rfl) ?_
                simp only [Act.put, List.setIfInBounds_toArray, List.set_cons_succ, List.set_cons_zero]
                refine wpList_store_mid rfl 41 (.tmp 6) (.tmp 125) rfl X0 0 o1.vals rfl rfl (HTh.out.there 0 22 (by decide)) (by kernel_rfl) (by kernel_rfl) ?_
                simp only [Act.put]
                obtain ⟨W8, hW8⟩ : ∃ W8, Hid (W8 = W7.setCells X0 0 o1.vals.toList) := ⟨_, Eq.refl _⟩
                have HF8 := HQh.out W8 (by rw [hW8.out]; exact Touch.cells X0 _ 0 W7) (by rw [hW8.out]; exact HTh.out.store0)
                rw [← hW8.out]
                clear hW8 HQh HTh HYh x0 x1 x3 y0 y1 y3
                generalize Value.agg o1.vals = vo3
                go_wp2_with fail
                go_roundg (zs.length - (i + 1))
                first | (case measure => have := Hil.out; omega) | skip)
              all_goals exact ⟨i + 1, L ++ [o1], setS s o1, o1, true, by have := Hil.out; omega, rfl, by rw [Hck.out], by have := Hil.out; omega, HF8⟩
            · have hne : isb = true := by cases isb with
                | false => exact absurd (.inl rfl) hcond
                | true => rfl
              have hlm : lessM b o1 = false := by cases e : lessM b o1 with
                | false => rfl
                | true => exact absurd (.inr e) hcond
              have HF8 := HKEEP hne hlm
              have hnot := lessM_not.1 hlm
              clear HTAKE HKEEP hcond hlm
              generalize hbst : b.st = bst at x3 hnot
              generalize hbc : b.c = bc at x0 hnot
              generalize hbk : b.k = bk at x1 hnot
              generalize host : o1.st = ost at y3 hnot
              generalize hoc : o1.c = oc at y0 hnot
              generalize hok : o1.k = ok at y1 hnot
              clear hbst hbc hbk host hoc hok
              have hsplit : (¬ bst < ost ∧ ¬ bst = ost) ∨ (¬ bst < ost ∧ bst = ost ∧ ¬ bc < oc ∧ ¬ bc = oc) ∨ (¬ bst < ost ∧ bst = ost ∧ ¬ bc < oc ∧ bc = oc ∧ ¬ bk < ok) := by omega
              clear hnot
              subst hne
              rcases hsplit with ⟨e1, e2⟩ | ⟨e1, e2, e3, e4⟩ | ⟨e1, e2, e3, e4, e5⟩
              all_goals (
                first
                  | (have e2' : (bst == ost) = true := by simpa using e2)
                  | (have e2' : (bst == ost) = false := by simpa using e2)
                try (first
                  | (have e4' : (bc == oc) = true := by simpa using e4)
                  | (have e4' : (bc == oc) = false := by simpa using e4))
                clear HTh HYh
                go_wp2_with fail
                go_roundg (zs.length - (i + 1))
                first | (case measure => have := Hil.out; omega) | skip)
              all_goals exact ⟨i + 1, L ++ [o1], setS s o1, b, true, by have := Hil.out; omega, rfl, by rw [Hck.out], by have := Hil.out; omega, HF8⟩
    · have hcase : ¬ i < zs.length ∨ (i < zs.length ∧ ¬ i < l.length) := by omega
      have l0 : (0 : Int) ≤ (i : Int) := by omega
      have HGet : Hid (Calls Try.prog 18 #[.pointer (some ⟨g, 0, none⟩), .agg #[.int .u64 0, .int .u64 0], .string ⟨#[107]⟩] wr fun e w' => e = .returned (.tuple #[(getS s 0 0 kK).1.val, .bool (getS s 0 0 kK).2]) ∧ Touch (fun _ => False) wr w') := lv_get HR.out.1 u64_zero u64_zero kK (by decide)
      -- what is found
      have hs0 : ∀ c k, shS s c k = true := fun c k => by unfold shS; rw [HR.out.2.2.1]; rfl
      have HGE : Hid ((isb = false ∧ getS s 0 0 kK = (zeroO, false)) ∨ (isb = true ∧ b.vk = 0 ∧ getS s 0 0 kK = (zeroO, false)) ∨ (isb = true ∧ b.vk ≠ 0 ∧ getS s 0 0 kK = (cleanO b, true))) := by
        rcases HR.out.2.2.2.2.2 with ⟨e, e2⟩ | ⟨e, hb, hm⟩
        · exact .inl ⟨e, get_none HR.out.1.hasL u64_zero u64_zero fun o ho => by rw [e2] at ho; cases ho⟩
        · have hbm := HR.out.2.2.2.2.1 b hb
          have hge := get_eq HR.out.1.hasL u64_zero u64_zero (ky := kK) hb ⟨hbm.1, hbm.2.1, hbm.2.2.1, hs0 _ _⟩ (fun o ho _ => hm o ho)
          by_cases hv : b.vk = 0
          · rw [if_neg (by simp [hv])] at hge
            exact .inr (.inl ⟨e, hv, hge⟩)
          · rw [if_pos hv] at hge
            exact .inr (.inr ⟨e, hv, hge⟩)
      have HVw : Hid ((viewE s (L.length + 1) 0 0).length = if (getS s 0 0 kK).2 = true then 1 else 0) := by
        show _ = _
        rw [viewE_succ]
        rcases HR.out.2.2.2.2.2 with ⟨e, e2⟩ | ⟨e, hb, hm⟩
        · have hk0 : keysS s 0 0 = [] := keys_eq HR.out.1.hasL u64_zero u64_zero List.Pairwise.nil fun ky => by
            rw [e2]; simp
          have hg0 : getS s 0 0 kK = (zeroO, false) := get_none HR.out.1.hasL u64_zero u64_zero fun o ho => by rw [e2] at ho; cases ho
          rw [hk0, hg0]; rfl
        · have hk1 : keysS s 0 0 = [[107]] := keys_eq HR.out.1.hasL u64_zero u64_zero (List.pairwise_singleton _ _) fun ky => by
            constructor
            · intro q
              rw [List.mem_singleton] at q
              subst q
              have hbm := HR.out.2.2.2.2.1 b hb
              exact ⟨b, hb, hbm.1, hbm.2.1, by rw [hbm.2.2.1]⟩
            · rintro ⟨o, ho, _, _, q⟩
              have hom := HR.out.2.2.2.2.1 o ho
              rw [hom.2.2.1] at q
              rw [List.mem_singleton]; exact q.symm
          rw [hk1]
          simp only [List.filterMap_cons, List.filterMap_nil]
          rw [show strK [107] = kK from rfl]
          unfold entE
          cases (getS s 0 0 kK).2 <;> rfl
      have HVh : Hid (∀ W, Touch (fun _ => False) wr W → Calls Try.prog 13 #[.pointer (some ⟨g, 0, none⟩)] W fun e w' => ∃ ao cap, e = .returned (.slice ao (viewE s (L.length + 1) 0 0).length cap) ∧ Touch (fun _ => False) W w') := fun W t => by
        refine (lv_view (HR.out.1.on t)).mono ?_
        rintro e w' ⟨v, rfl, het, t'⟩
        obtain ⟨a9, c9, rfl⟩ := het.shape
        exact ⟨a9, c9, rfl, t'⟩
      have HB : Hid (OpAt X0 b wr) := HR.out.2.1
      have hfb : isb = true → b.vf < 18446744073709551616 := fun e => by
        rcases HR.out.2.2.2.2.2 with ⟨q, _⟩ | ⟨_, hb, _⟩
        · rw [e] at q; cases q
        · exact (HR.out.1.hasL.fits b hb).1.vf
      have HSm : Hid (isb = true → ∀ W, Calls Try.prog 19 #[.agg (cleanO b).vals, .agg b.vals] W fun e w' => e = .returned (.bool true) ∧ Touch (fun _ => False) W w') := fun e W => by
        have := ref_same (cleanO b) b (refBits_ltM _ (hfb e)) (hfb e) W
        rw [sameO_clean] at this; exact this
      generalize (viewE s (L.length + 1) 0 0).length = vl at *
      generalize getS s 0 0 kK = GH at *
      obtain ⟨G, H⟩ := GH
      simp only at HGet HVw HGE
      clear hs0 hfb HR HZ HV
      have hc2 : (¬ (i : Int) < (n : Int)) ∨ ((i : Int) < (n : Int) ∧ ¬ (i : Int) < (m : Int)) := by omega
      clear hcase
      rcases hc2 with c1 | ⟨c1, c2⟩
      all_goals (
        go_upto_region 19 with fail
        refine wp_region_lit ?_
        iterate 2 (refine wpList_plain rfl fun K hK => ?_; go_simp; refine hK _ _ ?_; clear hK K)
        refine wpList_plain rfl fun K hK => ?_
        go_simp
        refine HGet.out.mono ?_
        rintro e w5 ⟨rfl, t5⟩
        refine hK _ _ ?_
        clear hK K
        iterate 4 (refine wpList_plain rfl fun K hK => ?_; go_simp; refine hK _ _ ?_; clear hK K)
        refine wpList_store_mid rfl 41 (.tmp 10) (.tmp 130) rfl w5.heap.size 0 G.vals rfl rfl (OpAt.there (o := zeroO) (heap_alloc_new w5 zeroOp) 0 22 (by decide)) (by kernel_rfl) (by kernel_rfl) ?_
        simp only [Act.put]
        have hn6 := newOpM w5 G
        obtain ⟨Z, hZ⟩ : ∃ X, Hid (X = w5.heap.size) := ⟨_, Eq.refl _⟩
        obtain ⟨W6, hW6⟩ : ∃ W, Hid (W = (w5.alloc zeroOp).setCells w5.heap.size 0 G.vals.toList) := ⟨_, Eq.refl _⟩
        rw [← hW6.out] at hn6 ⊢
        rw [← hZ.out] at hn6 ⊢
        have HT6 : Hid (Touch (fun _ => False) wr W6 ∧ OpAt X0 b W6 ∧ OpAt Z G W6 ∧ Touch (fun _ => False) w W6) := ⟨t5.trans hn6.1, HB.out.keep (t5.trans hn6.1), hn6.2, HTw.out.trans (t5.trans hn6.1)⟩
        clear hW6 hZ hn6 t5 HGet HB
        iterate 1 (refine wpList_plain rfl fun K hK => ?_; go_simp; refine hK _ _ ?_; clear hK K)
        generalize Value.agg G.vals = gv
        have b9 := HT6.out.2.1.q9
        rcases HGE.out with ⟨h1, h2⟩ | ⟨h1, h2, h3⟩ | ⟨h1, h2, h3⟩
        · simp only [Prod.mk.injEq] at h2
          obtain ⟨rfl, rfl⟩ := h2
          subst h1
          have hvl : vl = 0 := HVw.out
          subst hvl
          clear HGE HSm HVw b9
          go_wp2_with fail
          refine (HVh.out W6 HT6.out.1).mono ?_
          rintro e w7 ⟨a9, c9, rfl, t7⟩
          have HT7 : Hid (Touch (fun _ => False) w w7) := HT6.out.2.2.2.trans t7
          clear t7 HVh HT6
          go_wp2_with fail
          go_ret
          exact ⟨rfl, HT7.out⟩
        · simp only [Prod.mk.injEq] at h3
          obtain ⟨rfl, rfl⟩ := h3
          subst h1
          have hvl : vl = 0 := HVw.out
          subst hvl
          rw [h2] at b9
          clear HGE HSm HVw h2
          go_wp2_with fail
          refine (HVh.out W6 HT6.out.1).mono ?_
          rintro e w7 ⟨a9, c9, rfl, t7⟩
          have HT7 : Hid (Touch (fun _ => False) w w7) := HT6.out.2.2.2.trans t7
          clear t7 HVh HT6 b9
          go_wp2_with fail
          go_ret
          exact ⟨rfl, HT7.out⟩
        · simp only [Prod.mk.injEq] at h3
          obtain ⟨rfl, rfl⟩ := h3
          subst h1
          have hvl : vl = 1 := HVw.out
          subst hvl
          have h2' : (b.vk == 0) = false := by simpa using h2
          generalize b.vk = bvk at b9 h2'
          have HSm2 : Hid (∀ W, Calls Try.prog 19 #[.agg (cleanO b).vals, .agg b.vals] W fun e w' => e = .returned (.bool true) ∧ Touch (fun _ => False) W w') := HSm.out rfl
          clear HGE HVw HSm h2
          obtain ⟨G, hG⟩ : ∃ G, Hid (G = cleanO b) := ⟨_, Eq.refl _⟩
          rw [← hG.out] at HSm2 HT6
          clear hG
          go_upto_region 22 with fail
          refine wp_region_lit ?_
          iterate 2 (refine wpList_plain rfl fun K hK => ?_; go_simp; refine hK _ _ ?_; clear hK K)
          refine wpList_step fun K hK => ?_
          rw [if_pos (by kernel_rfl)]
          refine wp_load_mid 41 (.tmp 10) rfl Z 0 rfl G.vals.toList _ (rangeAt_of HT6.out.2.2.1) Try.underlying41 rfl (by kernel_rfl) (hK _ _ ?_)
          clear hK K
          simp only [Act.put, List.setIfInBounds_toArray, List.set_cons_succ, List.set_cons_zero]
          refine wpList_step fun K hK => ?_
          rw [if_pos (by kernel_rfl)]
          refine wp_load_mid 41 (.tmp 6) rfl X0 0 rfl b.vals.toList _ (rangeAt_of HT6.out.2.1) Try.underlying41 rfl (by kernel_rfl) (hK _ _ ?_)
          clear hK K
          simp only [Act.put, List.setIfInBounds_toArray, List.set_cons_succ, List.set_cons_zero]
          refine wpList_step fun K hK => ?_
          rw [if_pos (by kernel_rfl)]
          go_simp
          refine (HSm2.out W6).mono ?_
          rintro e w7 ⟨rfl, t7⟩
          refine hK _ _ ?_
          clear hK K
          have HT7 : Hid (Touch (fun _ => False) wr w7 ∧ Touch (fun _ => False) w w7) := ⟨HT6.out.1.trans t7, HT6.out.2.2.2.trans t7⟩
          clear t7 HT6 HSm2 b9
          generalize Value.agg G.vals = gv1
          generalize Value.agg b.vals = gv2
          go_wp2_with fail
          refine (HVh.out w7 HT7.out.1).mono ?_
          rintro e w8 ⟨a9, c9, rfl, t8⟩
          have HT8 : Hid (Touch (fun _ => False) w w8) := HT7.out.2.trans t8
          clear t8 HVh HT7
          go_wp2_with fail
          go_ret
          exact ⟨rfl, HT8.out⟩)
end Go.Proofs.Ytegldlfbmaapiaa
