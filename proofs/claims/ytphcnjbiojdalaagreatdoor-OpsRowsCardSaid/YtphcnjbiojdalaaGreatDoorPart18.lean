/- quirelaw8.sameAll of rows that are alike; quirehelp.Place. -/
import Derived.Test.YtphcnjbiojdalaaGreatDoorRowL
import Derived.Test.YtphcnjbiojdalaaGreatDoorPart13
import Derived.Test.YtphcnjbiojdalaaGreatDoorInO
import Derived.Test.YtphcnjbiojdalaaGreatDoorPart17
import Derived.Test.YtphcnjbiojdalaaGreatDoorOpCk
namespace Go.Proofs.YtphcnjbiojdalaaGreatDoor
open Go.RowKit
set_option linter.unusedVariables false
set_option linter.unusedSimpArgs false
set_option maxRecDepth 100000

set_option maxHeartbeats 4000000 in
theorem sameAll_any (l l2 : List O) (hne : l ≠ []) (heq : l2.length = l.length) (v v2 : Value) (w : World) (hsl : SlP w v l) (hsl2 : SlP w v2 l2) (hl : l.length ≤ 1073741824) (hv : ∀ x ∈ l, x.vf < 18446744073709551616) (hv2 : ∀ x ∈ l2, x.vf < 18446744073709551616) (hs : ∀ j (h : j < l.length) (h2 : j < l2.length), sameO l[j] l2[j] = true) :
    Calls Tryz.prog 22 #[v, v2] w fun e w' => e = .returned (.bool true) ∧ Touch (fun _ => False) w w' := by
  have hne2 : l2 ≠ [] := fun h => hne (List.length_eq_zero_iff.1 (by rw [← heq, h]; rfl))
  obtain ⟨b, o, cap, rfl, hcap, hcm, hrow⟩ := hsl.row hne
  obtain ⟨b2, o2, cap2, rfl, hcap2, hcm2, hrow2⟩ := hsl2.row hne2
  have hblt : b < w.heap.size := by
    have h0 := List.length_pos_iff.2 hne
    have := hrow 0 h0 0 (.int .u64 l[0].c) rfl
    exact World.block_lt_of_cell? _ _ this
  have hblt2 : b2 < w.heap.size := by
    have h0 := List.length_pos_iff.2 hne2
    have := hrow2 0 h0 0 (.int .u64 l2[0].c) rfl
    exact World.block_lt_of_cell? _ _ this
  have HRW : Hid (∀ (W : World), Touch (fun _ => False) w W → ∀ j (h : j < l.length), W.rangeAt b (o + j * 22) l[j].vals.toList) := fun W t j h i u hu => by
    rw [World.cell?_of_block (t.block _ hblt id)]; exact hrow j h i u hu
  have HRW2 : Hid (∀ (W : World), Touch (fun _ => False) w W → ∀ j (h : j < l2.length), W.rangeAt b2 (o2 + j * 22) l2[j].vals.toList) := fun W t j h i u hu => by
    rw [World.cell?_of_block (t.block _ hblt2 id)]; exact hrow2 j h i u hu
  have HGO : Hid (∀ j (h : j < l.length) (h2 : j < l2.length) W, Calls Tryz.prog 16 #[l[j].val, l2[j].val] W fun e w' => e = .returned (.bool true) ∧ Touch (fun _ => False) W w') := fun j h h2 W => (ref_same l[j] l2[j] (hv _ (List.getElem_mem _)) (hv2 _ (List.getElem_mem _)) W).mono (by rintro e w2 ⟨rfl, t⟩; exact ⟨by rw [hs j h h2], t⟩)
  have hl0 := List.length_pos_iff.2 hne
  have HQ : Hid (l2.length = l.length) := heq
  clear hrow hcap hcm hblt hrow2 hcap2 hcm2 hblt2 hsl hsl2 hne hne2 hv hv2 hs
  rw [heq]
  clear heq
  obtain ⟨n, hn⟩ : ∃ n : Nat, Hid (n = l.length) := ⟨_, Eq.refl _⟩
  have hlen : l.length = n := hn.out.symm
  rw [hlen] at hl hl0 ⊢
  clear hlen
  have ee : ((n : Int) == (n : Int)) = true := beq_self_eq_true _
  go_enter Tryz.func22, Tryz.ntmps22
  go_wp2_with fail
  go_loopg [5] n (fun gk s5 wx => ∃ m : Nat, m + gk = n ∧ s5 = .int .i64 (m : Int) ∧ Hid (Touch (fun _ => False) w wx))
  case atStart => exact ⟨0, by omega, rfl, Touch.refl _ _⟩
  case round =>
    obtain ⟨m, hmg, rfl, HI⟩ := hrel
    obtain ⟨wx, hwx⟩ : ∃ wx, wx = wr := ⟨_, rfl⟩
    subst hwx
    by_cases hml : m < n
    · have i3 : (m : Int) < (n : Int) := by omega
      have i4 : (0 : Int) ≤ (m : Int) := by omega
      have i5 : ((m : Int)).toNat = m := by omega
      have i6 : IntKind.i64.wrap ((m : Int) + 1) = (m : Int) + 1 := wrap_i64_small _ (by omega) (by omega)
      have i7 : IntKind.i64.wrap (m : Int) = (m : Int) := wrap_i64_small _ (by omega) (by omega)
      have j1 : m < l.length := by rw [← hn.out]; exact hml
      have j2 : m < l2.length := by rw [HQ.out]; exact j1
      have HR : Hid (∀ W, Touch (fun _ => False) w W → W.rangeAt b (o + m * 22) l[m].vals.toList ∧ W.rangeAt b2 (o2 + m * 22) l2[m].vals.toList) := fun W t => ⟨HRW.out W t m j1, HRW2.out W t m j2⟩
      have HE : Hid (∀ W, Calls Tryz.prog 16 #[l[m].val, l2[m].val] W fun e w' => e = .returned (.bool true) ∧ Touch (fun _ => False) W w') := fun W => HGO.out m j1 j2 W
      generalize l[m] = x at *
      generalize l2[m] = y at *
      clear j1 j2
      have hS0 : wx.drew.rangeAt b (o + m * 22) x.vals.toList ∧ wx.drew.rangeAt b2 (o2 + m * 22) y.vals.toList := HR.out wx.drew HI.out.drew
      go_upto_region 6 with fail
      refine wp_region_held_drew (S := fun W => W.rangeAt b (o + m * 22) x.vals.toList ∧ W.rangeAt b2 (o2 + m * 22) y.vals.toList) (by kernel_rfl) hS0 (fun hHeld => ?_)
      refine wpAnyH_take (i := 0) (oi := { dst := some 17, op := Go.Op.move (Go.Operand.tmp 0), type := 45, pos := "law.go:33", after := #[], guard := none }) (v := .slice (some ⟨b, o, none⟩) n cap) rfl (by kernel_rfl) (by kernel_rfl) (by kernel_rfl) (fun _ _ _ h => h) (Or.inl ⟨by rfl, ?_⟩) hHeld ?_
      · intro w hSw; clear hSw; go_simp
      simp only [Act.put, List.setIfInBounds_toArray]
      refine wpAnyH_take (i := 1) (oi := { dst := some 18, op := Go.Op.move (Go.Operand.tmp 5), type := 3, pos := "law.go:33", after := #[], guard := none }) (v := .int .i64 (m : Int)) rfl (by kernel_rfl) (by kernel_rfl) (by kernel_rfl) (fun _ _ _ h => h) (Or.inl ⟨by rfl, ?_⟩) hHeld ?_
      · intro w hSw; clear hSw; go_simp
      simp only [Act.put, List.setIfInBounds_toArray]
      refine wpAnyH_take (i := 2) (oi := { dst := some 19, op := Go.Op.indexAddr 45 (Go.Operand.tmp 17) (Go.Operand.tmp 18), type := 0, pos := "law.go:33", after := #[{ on := 0, ground := Go.Ground.data }, { on := 1, ground := Go.Ground.data }], guard := none }) (v := .pointer (some ⟨b, o + m * 22, none⟩)) rfl (by kernel_rfl) (by kernel_rfl) (by kernel_rfl) (fun _ _ _ h => h) (Or.inl ⟨by rfl, ?_⟩) hHeld ?_
      · intro w hSw; clear hSw; go_simp
      simp only [Act.put, List.setIfInBounds_toArray]
      refine wpAnyH_take (i := 3) (oi := { dst := some 20, op := Go.Op.load 31 (Go.Operand.tmp 19), type := 31, pos := "law.go:33", after := #[{ on := 2, ground := Go.Ground.data }], guard := none }) (v := x.val) rfl (by kernel_rfl) (by kernel_rfl) (by kernel_rfl) (fun _ _ _ h => h) (yieldsIf_load_mid (by rfl) 31 (.tmp 19) rfl b (o + m * 22) rfl x.vals.toList _ (fun w hw => hw.1) Tryz.underlying31 rfl (by kernel_rfl)) hHeld ?_
      simp only [Act.put, List.setIfInBounds_toArray]
      refine wpAnyH_take (i := 4) (oi := { dst := some 21, op := Go.Op.move (Go.Operand.tmp 1), type := 45, pos := "law.go:33", after := #[], guard := none }) (v := .slice (some ⟨b2, o2, none⟩) n cap2) rfl (by kernel_rfl) (by kernel_rfl) (by kernel_rfl) (fun _ _ _ h => h) (Or.inl ⟨by rfl, ?_⟩) hHeld ?_
      · intro w hSw; clear hSw; go_simp
      simp only [Act.put, List.setIfInBounds_toArray]
      refine wpAnyH_take (i := 5) (oi := { dst := some 22, op := Go.Op.move (Go.Operand.tmp 5), type := 3, pos := "law.go:33", after := #[], guard := none }) (v := .int .i64 (m : Int)) rfl (by kernel_rfl) (by kernel_rfl) (by kernel_rfl) (fun _ _ _ h => h) (Or.inl ⟨by rfl, ?_⟩) hHeld ?_
      · intro w hSw; clear hSw; go_simp
      simp only [Act.put, List.setIfInBounds_toArray]
      refine wpAnyH_take (i := 6) (oi := { dst := some 23, op := Go.Op.indexAddr 45 (Go.Operand.tmp 21) (Go.Operand.tmp 22), type := 0, pos := "law.go:33", after := #[{ on := 4, ground := Go.Ground.data }, { on := 5, ground := Go.Ground.data }], guard := none }) (v := .pointer (some ⟨b2, o2 + m * 22, none⟩)) rfl (by kernel_rfl) (by kernel_rfl) (by kernel_rfl) (fun _ _ _ h => h) (Or.inl ⟨by rfl, ?_⟩) hHeld ?_
      · intro w hSw; clear hSw; go_simp
      simp only [Act.put, List.setIfInBounds_toArray]
      refine wpAnyH_take (i := 7) (oi := { dst := some 24, op := Go.Op.load 31 (Go.Operand.tmp 23), type := 31, pos := "law.go:33", after := #[{ on := 6, ground := Go.Ground.data }], guard := none }) (v := y.val) rfl (by kernel_rfl) (by kernel_rfl) (by kernel_rfl) (fun _ _ _ h => h) (yieldsIf_load_mid (by rfl) 31 (.tmp 23) rfl b2 (o2 + m * 22) rfl y.vals.toList _ (fun w hw => hw.2) Tryz.underlying31 rfl (by kernel_rfl)) hHeld ?_
      simp only [Act.put, List.setIfInBounds_toArray]
      refine wpAnyH_ready (rs := [8]) (by kernel_rfl) (by simp) ?_
      refine AllReadyH.cons (o := { dst := some 25, op := Go.Op.call { callee := Go.Callee.value (Go.Operand.func 16), args := #[Go.Operand.tmp 20, Go.Operand.tmp 24], argTypes := #[31, 31] }, type := 4, pos := "law.go:33", after := #[{ on := 3, ground := Go.Ground.data }, { on := 7, ground := Go.Ground.data }], guard := none }) rfl (fun K hK => ?_) AllReadyH.nil
      go_simp
      refine (HE.out _).mono ?_
      rintro e w2 ⟨rfl, hT⟩
      have HT2 : Hid (Touch (fun _ => False) w w2) := HI.out.trans (Touch.drew_left hT)
      have hS2 := HR.out w2 HT2.out
      clear hT
      refine hK.out _ _ hS2 (fun hHeld => ?_)
      clear hK K hS2
      refine wpAnyH_take (i := 9) (oi := { dst := some 26, op := Go.Op.unOp Go.UnOp.not 4 (Go.Operand.tmp 25), type := 4, pos := "law.go:33", after := #[{ on := 8, ground := Go.Ground.data }], guard := none }) (v := .bool false) rfl (by kernel_rfl) (by kernel_rfl) (by kernel_rfl) (fun _ _ _ h => h) (Or.inl ⟨by rfl, ?_⟩) hHeld ?_
      · intro w hSw; clear hSw; go_simp
      simp only [Act.put, List.setIfInBounds_toArray]
      refine wpAnyH_done (by kernel_rfl) ?_ _
      try simp only [List.getElem_toArray, List.getElem_cons_succ, List.getElem_cons_zero, List.setIfInBounds_toArray, List.set_cons_succ, List.set_cons_zero]
      clear hHeld hS0
      go_wp2_with fail
      go_roundg (n - (m + 1))
      case measure => omega
      case rel => exact ⟨m + 1, by omega, by push_cast; rfl, HT2.out⟩
    · have i1 : ¬ (m : Int) < (n : Int) := by omega
      go_wp2_with fail
      go_ret
      exact ⟨rfl, HI.out⟩
set_option maxHeartbeats 1000000 in
theorem place_in (k n : Int) (h1 : 1 ≤ n) (h2 : n < 9223372036854775808) (w : World) : Calls Tryz.prog 20 #[.int .i64 k, .int .i64 n] w fun e w' => (∃ p : Nat, e = .returned (.int .i64 (p : Int)) ∧ (p : Int) < n) ∧ w' = w := by
  have hn0 : ¬ n = 0 := by omega
  have hb : -n < Int.tmod k n ∧ Int.tmod k n < n := by
    refine ⟨?_, Int.tmod_lt_of_pos k (by omega)⟩
    have := Int.lt_tmod_of_pos k (b := n) (by omega)
    omega
  obtain ⟨r, hr⟩ : ∃ r, Int.tmod k n = r := ⟨_, rfl⟩
  rw [hr] at hb
  have w1 : IntKind.i64.wrap r = r := wrap_i64_small _ (by omega) (by omega)
  by_cases h0 : r < 0
  · have w2 : IntKind.i64.wrap (r + n) = r + n := wrap_i64_small _ (by omega) (by omega)
    have HP : Hid (∃ p : Nat, (.int .i64 (r + n) : Value) = .int .i64 (p : Int) ∧ (p : Int) < n) := ⟨(r + n).toNat, by congr 1; omega, by omega⟩
    clear hb h1 h2
    go_enter Tryz.func20, Tryz.ntmps20
    go_wp2_with fail
    go_ret
    obtain ⟨p, e, hp⟩ := HP.out
    exact ⟨⟨p, by rw [e]; rfl, hp⟩, rfl⟩
  · have HP : Hid (∃ p : Nat, (.int .i64 r : Value) = .int .i64 (p : Int) ∧ (p : Int) < n) := ⟨r.toNat, by congr 1; omega, by omega⟩
    clear hb h1 h2
    go_enter Tryz.func20, Tryz.ntmps20
    go_wp2_with fail
    go_ret
    obtain ⟨p, e, hp⟩ := HP.out
    exact ⟨⟨p, by rw [e]; rfl, hp⟩, rfl⟩
end Go.Proofs.YtphcnjbiojdalaaGreatDoor

/- ops.rightOnes, of operations whose ids are unlike. -/
namespace Go.Proofs.YtphcnjbiojdalaaGreatDoor
open Go.RowKit Go.Maps
set_option linter.unusedVariables false
set_option linter.unusedSimpArgs false
set_option maxRecDepth 100000

/-- What every operation of a list keeps to, so that nothing runs over. -/
def Sized (l : List O) : Prop := ∀ x ∈ l, x.tx.size ≤ 1000000 ∧ x.ky.size ≤ 1000000 ∧ x.vs.size ≤ 1000000 ∧ x.vf < 18446744073709551616
theorem run_build1 (x : O) (W : World) : (Instr.buildSlice 45 1 #[(0, x.val)]).run Tryz.prog W = .ok (.slice (some ⟨W.heap.size, 0, none⟩) 1 1) (W.alloc (opO x)) := by kernel_rfl
theorem take_filter (l : List O) (i : Nat) (h : i < l.length) : (l.take (i + 1)).filter checkB = (l.take i).filter checkB ++ (if checkB l[i] then [l[i]] else []) := by
  rw [List.take_succ_eq_append_getElem h, List.filter_append]
  by_cases hc : checkB l[i] <;> simp [hc]
set_option maxHeartbeats 4000000 in
theorem rightOnes_any (l s : List O) (v : Value) (w : World) (hU : TabsU w) (hsl : SlP w v l) (hl : l.length ≤ 1048576) (hz : Sized l) (hs : s ≠ []) (hp : s.Perm (l.filter checkB)) (ho : s.Pairwise idLt) :
    Calls Tryz.prog 50 #[v] w fun e w' => ∃ v', e = .returned v' ∧ NewP w w' v' s := by
  have hne : l ≠ [] := by
    rintro rfl
    exact hs (List.perm_nil.1 (by simpa using hp))
  obtain ⟨b, o, cap, rfl, hcap, hcm, hrow⟩ := hsl.row hne
  have hblt : b < w.heap.size := by
    have h0 := List.length_pos_iff.2 hne
    have := hrow 0 h0 0 (.int .u64 l[0].c) rfl
    exact World.block_lt_of_cell? _ _ this
  have HRW : Hid (∀ (W : World), Touch (fun _ => False) w W → ∀ j (h : j < l.length), W.rangeAt b (o + j * 22) l[j].vals.toList) := fun W t j h i u hu => by
    rw [World.cell?_of_block (t.block _ hblt id)]; exact hrow j h i u hu
  have HCK : Hid (∀ (W : World), Touch (fun _ => False) w W → ∀ j (h : j < l.length), Calls Tryz.prog 11 #[l[j].val] W fun e w' => e = .returned (.int .i64 (opErr (checkB l[j]))) ∧ Touch (fun _ => False) W w') := fun W t j h => ops_check l[j] (by have := hz _ (List.getElem_mem h); exact ⟨by omega, by omega, by omega, this.2.2.2⟩) W (hU.keep t)
  have HIN : Hid (∀ (W : World) (v : Value), Touch (fun _ => False) w W → SlP W v (l.filter checkB) → Calls Tryz.prog 53 #[v] W fun e w' => ∃ v', e = .returned v' ∧ NewP W w' v' s) := fun W v t hv => by
    have hne2 : l.filter checkB ≠ [] := fun e => hs (List.perm_nil.1 (by rw [e] at hp; exact hp))
    refine (inOrder_any _ hne2 v W hv (by have := List.length_filter_le checkB l; omega)).mono ?_
    rintro e w' ⟨v', p, rfl, h1, h2, h3⟩
    rw [places_one _ s p h1 h2 hp ho] at h3
    exact ⟨v', rfl, h3⟩
  have HCF : Hid (∀ (W : World) (v : Value), SlP W v s → Calls Tryz.prog 75 #[v, .func (.func 76) #[] #[]] W fun e w' => e = .returned v ∧ Touch (fun _ => False) W w') := fun W v hv => by
    refine compact_any s hs v W hv (by have := hp.length_eq; have := List.length_filter_le checkB l; omega) fun j h => ?_
    have := List.pairwise_iff_getElem.1 ho j (j + 1) (by omega) h (by omega)
    unfold idLt at this
    rw [Bool.and_eq_false_iff]
    by_cases e : s[j + 1].c = s[j].c
    · exact .inr (beq_false_of_ne (by omega))
    · exact .inl (beq_false_of_ne e)
  have hbs : ∀ (x : O) (W : World), (Instr.buildSlice 45 1 #[(0, x.val)]).run Tryz.prog W = .ok (.slice (some ⟨W.heap.size, 0, none⟩) 1 1) (W.alloc (opO x)) := run_build1
  clear hrow hcap hcm hblt hsl hne hz hU hp ho hs
  go_enter Tryz.func50, Tryz.ntmps50
  go_wp2_with fail
  go_loopg [3, 8] l.length (fun gk s3 s8 wx => ∃ (i : Nat) (ao : Option Addr) (n cp : Nat), i + gk = l.length ∧ s3 = .slice ao n cp ∧ s8 = .int .i64 (i : Int) ∧ n ≤ i ∧ Hid (n = ((l.take i).filter checkB).length ∧ NewP w wx (.slice ao n cp) ((l.take i).filter checkB)))
  case atStart => exact ⟨0, none, 0, 0, by omega, rfl, rfl, by omega, rfl, NewP.nil w w (Touch.refl _ _)⟩
  case round =>
    obtain ⟨i, ao, n, cp, hig, rfl, rfl, hni, HI⟩ := hrel
    obtain ⟨wx, hwx⟩ : ∃ wx, wx = wr := ⟨_, rfl⟩
    subst hwx
    by_cases hil : i < l.length
    · have i1 : (0 : Int) ≤ (i : Int) := by omega
      have i2 : (i : Int) < (l.length : Int) := by omega
      have HRR : Hid (wx.rangeAt b (o + i * 22) l[i].vals.toList) := HRW.out wx HI.out.2.touch i hil
      have HCX : Hid (∀ W, Touch (fun _ => False) w W → Calls Tryz.prog 11 #[l[i].val] W fun e w' => e = .returned (.int .i64 (opErr (checkB l[i]))) ∧ Touch (fun _ => False) W w') := fun W t => HCK.out W t i hil
      have HTF : Hid ((l.take (i + 1)).filter checkB = (l.take i).filter checkB ++ (if checkB l[i] then [l[i]] else [])) := take_filter l i hil
      generalize l[i] = x at *
      go_upto_region 4 with fail
      refine wp_region_lit ?_
      refine wpList_plain rfl fun K hK => ?_
      go_simp
      refine hK _ _ ?_
      clear hK K
      refine wpList_load_mid rfl 31 (.tmp 10) rfl b (o + i * 22) rfl x.vals.toList _ HRR.out Tryz.underlying31 rfl (by kernel_rfl) ?_
      simp only [Act.put, List.setIfInBounds_toArray, List.set_cons_succ, List.set_cons_zero]
      refine wpList_plain rfl fun K hK => ?_
      go_simp
      refine hK _ _ ?_
      clear hK K
      have hz : OpAt wx.heap.size zeroO (wx.alloc (.cells #[.int .u64 0, .int .u64 0, .int .i64 0, .int .u64 0, .int .u64 0, .int .u64 0, .int .u64 0, .int .u64 0, .string ⟨#[]⟩, .int .i64 0, .int .i64 0, .float .f64 0, .string ⟨#[]⟩, .string ⟨#[]⟩, .int .u64 0, .int .u64 0, .int .u64 0, .int .u64 0, .bool false, .int .u64 0, .int .u64 0, .bool false] 31)) := heap_alloc_new _ _
      refine wpList_store_mid rfl 31 (.tmp 5) (.tmp 11) rfl wx.heap.size 0 x.vals rfl rfl (hz.there 0 22 (by decide)) (by kernel_rfl) (by kernel_rfl) ?_
      simp only [Act.put]
      obtain ⟨W1, hW⟩ : ∃ W, Hid (W = (wx.alloc (.cells #[.int .u64 0, .int .u64 0, .int .i64 0, .int .u64 0, .int .u64 0, .int .u64 0, .int .u64 0, .int .u64 0, .string ⟨#[]⟩, .int .i64 0, .int .i64 0, .float .f64 0, .string ⟨#[]⟩, .string ⟨#[]⟩, .int .u64 0, .int .u64 0, .int .u64 0, .int .u64 0, .bool false, .int .u64 0, .int .u64 0, .bool false] 31)).setCells wx.heap.size 0 x.vals.toList) := ⟨_, Eq.refl _⟩
      have HW1 : Hid (Touch (fun _ => False) wx W1 ∧ OpAt wx.heap.size x W1) := by rw [hW.out]; exact ⟨((Touch.refl _ _).alloc _).stored (Nat.le_refl _) 0 _, hz.stored 0 x.vals.toList (by kernel_rfl)⟩
      rw [← hW.out]
      clear hW hz
      go_upto_region 5 with fail
      refine wp_region_lit ?_
      refine wpList_load_mid rfl 31 (.tmp 5) rfl wx.heap.size 0 rfl x.vals.toList _ (rangeAt_of HW1.out.2) Tryz.underlying31 rfl (by kernel_rfl) ?_
      simp only [Act.put, List.setIfInBounds_toArray, List.set_cons_succ, List.set_cons_zero]
      go_wp2_with fail
      refine (HCX.out _ (HI.out.2.touch.trans HW1.out.1)).mono ?_
      rintro e W2 ⟨rfl, t⟩
      have H2 : Hid (Touch (fun _ => False) wx W2 ∧ OpAt wx.heap.size x W2) := ⟨HW1.out.1.trans t, HW1.out.2.keep t⟩
      clear t HW1 HCX HRR
      generalize checkB x = cb at *
      cases cb
      · have ho : opErr false = 120 := rfl
        have HI2 : Hid (n = ((l.take (i + 1)).filter checkB).length ∧ NewP w W2 (.slice ao n cp) ((l.take (i + 1)).filter checkB)) := by
          rw [HTF.out]
          simp only [Bool.false_eq_true, if_false, List.append_nil]
          exact ⟨HI.out.1, HI.out.2.on H2.out.1⟩
        clear HI H2 HTF
        go_wp2_with fail
        go_roundg (l.length - (i + 1))
        case measure => omega
        case rel => exact ⟨i + 1, ao, n, cp, by omega, rfl, by go_num, by omega, HI2.out⟩
      · have ho : opErr true = 0 := rfl
        have HN2 : Hid (NewP w W2 (.slice ao n cp) ((l.take i).filter checkB)) := HI.out.2.on H2.out.1
        have hnl : n = ((l.take i).filter checkB).length := HI.out.1
        obtain ⟨v5, w5, hrun, hN5, _⟩ := NewP.app1 HN2.out x (by omega)
        have HI2 : Hid ((n + 1) = ((l.take (i + 1)).filter checkB).length ∧ NewP w w5 v5 ((l.take (i + 1)).filter checkB)) := by
          rw [HTF.out]
          simp only [if_true]
          exact ⟨by rw [List.length_append, ← HI.out.1]; rfl, hN5⟩
        obtain ⟨ao5, cap5, hv5, _⟩ := hN5.shape
        rw [List.length_append, ← hnl] at hv5
        have hv6 : v5 = .slice ao5 (n + 1) cap5 := hv5
        subst hv6
        clear hv5 hN5 hnl HTF HI HN2
        go_upto_region 6 with fail
        refine wp_region_lit ?_
        refine wpList_plain rfl fun K hK => ?_
        go_simp
        refine hK _ _ ?_
        clear hK K
        refine wpList_load_mid rfl 31 (.tmp 5) rfl wx.heap.size 0 rfl x.vals.toList _ (rangeAt_of H2.out.2) Tryz.underlying31 rfl (by kernel_rfl) ?_
        simp only [Act.put, List.setIfInBounds_toArray, List.set_cons_succ, List.set_cons_zero]
        refine wpList_plain rfl fun K hK => ?_
        go_simp
        refine hK _ _ ?_
        clear hK K
        refine wpList_append_runP rfl _ _ rfl _ _ _ rfl rfl hrun ?_
        clear hrun H2
        simp only [Act.put, List.setIfInBounds_toArray, List.set_cons_succ, List.set_cons_zero]
        go_wp2_with fail
        go_roundg (l.length - (i + 1))
        case measure => omega
        case rel => exact ⟨i + 1, ao5, n + 1, cap5, by omega, rfl, by go_num, by omega, HI2.out⟩
    · obtain hil2 : i = l.length := by omega
      have i2 : ¬ (i : Int) < (l.length : Int) := by omega
      have HA : Hid (NewP w wx (.slice ao n cp) (l.filter checkB)) := by
        have := HI.out.2
        rw [hil2, List.take_length] at this
        exact this
      clear hil2 HI
      go_wp2_with fail
      refine (HIN.out wx _ HA.out.touch HA.out.sl).mono ?_
      rintro e w6 ⟨v6, rfl, hN6⟩
      have HN6 : Hid (NewP wx w6 v6 s) := hN6
      obtain ⟨ao6, cap6, rfl, _⟩ := hN6.shape
      clear hN6
      go_wp2_with fail
      refine (HCF.out w6 _ HN6.out.sl).mono ?_
      rintro e w7 ⟨rfl, t⟩
      have HN7 : Hid (NewP w w7 (.slice ao6 s.length cap6) s) := (HN6.out.on t).since HA.out.touch
      clear t HN6 HA
      go_wp2_with fail
      go_ret
      exact ⟨_, rfl, HN7.out⟩
end Go.Proofs.YtphcnjbiojdalaaGreatDoor
