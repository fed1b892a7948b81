/- ops.rightOnes, of operations whose ids are unlike. -/
import Derived.Test.YtmknkecaeagmbaaGreatDoorInO
import Derived.Test.YtmknkecaeagmbaaGreatDoorPart17
import Derived.Test.YtmknkecaeagmbaaGreatDoorOpCk
namespace Go.Proofs.YtmknkecaeagmbaaGreatDoor
open Go.RowKit Go.Maps
set_option linter.unusedVariables false
set_option linter.unusedSimpArgs false
set_option maxRecDepth 100000

/-- What every operation of a list keeps to, so that nothing runs over. -/
def Sized (l : List O) : Prop := ∀ x ∈ l, x.tx.size ≤ 1000000 ∧ x.ky.size ≤ 1000000 ∧ x.vs.size ≤ 1000000 ∧ x.vf < 18446744073709551616
theorem run_build1 (x : O) (W : World) : (Instr.buildSlice 45 1 #[(0, x.val)]).run Tryz.prog W = .ok (.slice (some ⟨W.heap.size, 0, none⟩) 1 1) (W.alloc (opO x)) := by kernel_rfl
theorem take_filter (l : List O) (i : Nat) (h : i < l.length) : (l.take (i + 1)).filter checkB = (l.take i).filter checkB ++ (if checkB l[i] then [l[i]] else []) := by
  rw [List.take_succ_eq_append_getElem h, List.filter_append]
  by_cases hc : checkB l[i] <;> simp [hc]
set_option maxHeartbeats 4000000 in
theorem rightOnes_any (l s : List O) (v : Value) (w : World) (hU : TabsU w) (hsl : SlP w v l) (hl : l.length ≤ 1048576) (hz : Sized l) (hs : s ≠ []) (hp : s.Perm (l.filter checkB)) (ho : s.Pairwise idLt) :
    Calls Tryz.prog 50 #[v] w fun e w' => ∃ v', e = .returned v' ∧ NewP w w' v' s := by
  have hne : l ≠ [] := by
    rintro rfl
    exact hs (List.perm_nil.1 (by simpa using hp))
  obtain ⟨b, o, cap, rfl, hcap, hcm, hrow⟩ := hsl.row hne
  have hblt : b < w.heap.size := by
    have h0 := List.length_pos_iff.2 hne
    have := hrow 0 h0 0 (.int .u64 l[0].c) rfl
    exact World.block_lt_of_cell? _ _ this
  have HRW : Hid (∀ (W : World), Touch (fun _ => False) w W → ∀ j (h : j < l.length), W.rangeAt b (o + j * 22) l[j].vals.toList) := fun W t j h i u hu => by
    rw [World.cell?_of_block (t.block _ hblt id)]; exact hrow j h i u hu
  have HCK : Hid (∀ (W : World), Touch (fun _ => False) w W → ∀ j (h : j < l.length), Calls Tryz.prog 11 #[l[j].val] W fun e w' => e = .returned (.int .i64 (opErr (checkB l[j]))) ∧ Touch (fun _ => False) W w') := fun W t j h => ops_check l[j] (by have := hz _ (List.getElem_mem h); exact ⟨by omega, by omega, by omega, this.2.2.2⟩) W (hU.keep t)
  have HIN : Hid (∀ (W : World) (v : Value), Touch (fun _ => False) w W → SlP W v (l.filter checkB) → Calls Tryz.prog 53 #[v] W fun e w' => ∃ v', e = .returned v' ∧ NewP W w' v' s) := fun W v t hv => by
    have hne2 : l.filter checkB ≠ [] := fun e => hs (List.perm_nil.1 (by rw [e] at hp; exact hp))
    refine (inOrder_any _ hne2 v W hv (by have := List.length_filter_le checkB l; omega)).mono ?_
    rintro e w' ⟨v', p, rfl, h1, h2, h3⟩
    rw [places_one _ s p h1 h2 hp ho] at h3
    exact ⟨v', rfl, h3⟩
  have HCF : Hid (∀ (W : World) (v : Value), SlP W v s → Calls Tryz.prog 75 #[v, .func (.func 76) #[] #[]] W fun e w' => e = .returned v ∧ Touch (fun _ => False) W w') := fun W v hv => by
    refine compact_any s hs v W hv (by have := hp.length_eq; have := List.length_filter_le checkB l; omega) fun j h => ?_
    have := List.pairwise_iff_getElem.1 ho j (j + 1) (by omega) h (by omega)
    unfold idLt at this
    rw [Bool.and_eq_false_iff]
    by_cases e : s[j + 1].c = s[j].c
    · exact .inr (beq_false_of_ne (by omega))
    · exact .inl (beq_false_of_ne e)
  have hbs : ∀ (x : O) (W : World), (Instr.buildSlice 45 1 #[(0, x.val)]).run Tryz.prog W = .ok (.slice (some ⟨W.heap.size, 0, none⟩) 1 1) (W.alloc (opO x)) := run_build1
  clear hrow hcap hcm hblt hsl hne hz hU hp ho hs
  go_enter Tryz.func50, Tryz.ntmps50
  go_wp2_with fail
  go_loopg [3, 8] l.length (fun gk s3 s8 wx => ∃ (i : Nat) (ao : Option Addr) (n cp : Nat), i + gk = l.length ∧ s3 = .slice ao n cp ∧ s8 = .int .i64 (i : Int) ∧ n ≤ i ∧ Hid (n = ((l.take i).filter checkB).length ∧ NewP w wx (.slice ao n cp) ((l.take i).filter checkB)))
  case atStart => exact ⟨0, none, 0, 0, by omega, rfl, rfl, by omega, rfl, NewP.nil w w (Touch.refl _ _)⟩
  case round =>
    obtain ⟨i, ao, n, cp, hig, rfl, rfl, hni, HI⟩ := hrel
    obtain ⟨wx, hwx⟩ : ∃ wx, wx = wr := ⟨_, rfl⟩
    subst hwx
    by_cases hil : i < l.length
    · have i1 : (0 : Int) ≤ (i : Int) := by omega
      have i2 : (i : Int) < (l.length : Int) := by omega
      have HRR : Hid (wx.rangeAt b (o + i * 22) l[i].vals.toList) := HRW.out wx HI.out.2.touch i hil
      have HCX : Hid (∀ W, Touch (fun _ => False) w W → Calls Tryz.prog 11 #[l[i].val] W fun e w' => e = .returned (.int .i64 (opErr (checkB l[i]))) ∧ Touch (fun _ => False) W w') := fun W t => HCK.out W t i hil
      have HTF : Hid ((l.take (i + 1)).filter checkB = (l.take i).filter checkB ++ (if checkB l[i] then [l[i]] else [])) := take_filter l i hil
      generalize l[i] = x at *
      go_upto_region 4 with fail
      refine wp_region_lit ?_
      refine wpList_plain rfl fun K hK => ?_
      go_simp
      refine hK _ _ ?_
      clear hK K
      refine wpList_load_mid rfl 31 (.tmp 10) rfl b (o + i * 22) rfl x.vals.toList _ HRR.out Tryz.underlying31 rfl (by kernel_rfl) ?_
      simp only [Act.put, List.setIfInBounds_toArray, List.set_cons_succ, List.set_cons_zero]
      refine wpList_plain rfl fun K hK => ?_
      go_simp
      refine hK _ _ ?_
      clear hK K
      have hz : OpAt wx.heap.size zeroO (wx.alloc (.cells #[.int .u64 0, .int .u64 0, .int .i64 0, .int .u64 0, .int .u64 0, .int .u64 0, .int .u64 0, .int .u64 0, .string ⟨#[]⟩, .int .i64 0, .int .i64 0, .float .f64 0, .string ⟨#[]⟩, .string ⟨#[]⟩, .int .u64 0, .int .u64 0, .int .u64 0, .int .u64 0, .bool false, .int .u64 0, .int .u64 0, .bool false] 31)) := heap_alloc_new _ _
      refine wpList_store_mid rfl 31 (.tmp 5) (.tmp 11) rfl wx.heap.size 0 x.vals rfl rfl (hz.there 0 22 (by decide)) (by kernel_rfl) (by kernel_rfl) ?_
      simp only [Act.put]
      obtain ⟨W1, hW⟩ : ∃ W, Hid (W = (wx.alloc (.cells #[.int .u64 0, .int .u64 0, .int .i64 0, .int .u64 0, .int .u64 0, .int .u64 0, .int .u64 0, .int .u64 0, .string ⟨#[]⟩, .int .i64 0, .int .i64 0, .float .f64 0, .string ⟨#[]⟩, .string ⟨#[]⟩, .int .u64 0, .int .u64 0, .int .u64 0, .int .u64 0, .bool false, .int .u64 0, .int .u64 0, .bool false] 31)).setCells wx.heap.size 0 x.vals.toList) := ⟨_, Eq.refl _⟩
      have HW1 : Hid (Touch (fun _ => False) wx W1 ∧ OpAt wx.heap.size x W1) := by rw [hW.out]; exact ⟨((Touch.refl _ _).alloc _).stored (Nat.le_refl _) 0 _, hz.stored 0 x.vals.toList (by kernel_rfl)⟩
      rw [← hW.out]
      clear hW hz
      go_upto_region 5 with fail
      refine wp_region_lit ?_
      refine wpList_load_mid rfl 31 (.tmp 5) rfl wx.heap.size 0 rfl x.vals.toList _ (rangeAt_of HW1.out.2) Tryz.underlying31 rfl (by kernel_rfl) ?_
      simp only [Act.put, List.setIfInBounds_toArray, List.set_cons_succ, List.set_cons_zero]
      go_wp2_with fail
      refine (HCX.out _ (HI.out.2.touch.trans HW1.out.1)).mono ?_
      rintro e W2 ⟨rfl, t⟩
      have H2 : Hid (Touch (fun _ => False) wx W2 ∧ OpAt wx.heap.size x W2) := ⟨HW1.out.1.trans t, HW1.out.2.keep t⟩
      clear t HW1 HCX HRR
      generalize checkB x = cb at *
      cases cb
      · have ho : opErr false = 120 := rfl
        have HI2 : Hid (n = ((l.take (i + 1)).filter checkB).length ∧ NewP w W2 (.slice ao n cp) ((l.take (i + 1)).filter checkB)) := by
          rw [HTF.out]
          simp only [Bool.false_eq_true, if_false, List.append_nil]
          exact ⟨HI.out.1, HI.out.2.on H2.out.1⟩
        clear HI H2 HTF
        go_wp2_with fail
        go_roundg (l.length - (i + 1))
        case measure => omega
        case rel => exact ⟨i + 1, ao, n, cp, by omega, rfl, by go_num, by omega, HI2.out⟩
      · have ho : opErr true = 0 := rfl
        have HN2 : Hid (NewP w W2 (.slice ao n cp) ((l.take i).filter checkB)) := HI.out.2.on H2.out.1
        have hnl : n = ((l.take i).filter checkB).length := HI.out.1
        obtain ⟨v5, w5, hrun, hN5, _⟩ := NewP.app1 HN2.out x (by omega)
        have HI2 : Hid ((n + 1) = ((l.take (i + 1)).filter checkB).length ∧ NewP w w5 v5 ((l.take (i + 1)).filter checkB)) := by
          rw [HTF.out]
          simp only [if_true]
          exact ⟨by rw [List.length_append, ← HI.out.1]; rfl, hN5⟩
        obtain ⟨ao5, cap5, hv5, _⟩ := hN5.shape
        rw [List.length_append, ← hnl] at hv5
        have hv6 : v5 = .slice ao5 (n + 1) cap5 := hv5
        subst hv6
        clear hv5 hN5 hnl HTF HI HN2
        go_upto_region 6 with fail
        refine wp_region_lit ?_
        refine wpList_plain rfl fun K hK => ?_
        go_simp
        refine hK _ _ ?_
        clear hK K
        refine wpList_load_mid rfl 31 (.tmp 5) rfl wx.heap.size 0 rfl x.vals.toList _ (rangeAt_of H2.out.2) Tryz.underlying31 rfl (by kernel_rfl) ?_
        simp only [Act.put, List.setIfInBounds_toArray, List.set_cons_succ, List.set_cons_zero]
        refine wpList_plain rfl fun K hK => ?_
        go_simp
        refine hK _ _ ?_
        clear hK K
        refine wpList_append_runP rfl _ _ rfl _ _ _ rfl rfl hrun ?_
        clear hrun H2
        simp only [Act.put, List.setIfInBounds_toArray, List.set_cons_succ, List.set_cons_zero]
        go_wp2_with fail
        go_roundg (l.length - (i + 1))
        case measure => omega
        case rel => exact ⟨i + 1, ao5, n + 1, cap5, by omega, rfl, by go_num, by omega, HI2.out⟩
    · obtain hil2 : i = l.length := by omega
      have i2 : ¬ (i : Int) < (l.length : Int) := by omega
      have HA : Hid (NewP w wx (.slice ao n cp) (l.filter checkB)) := by
        have := HI.out.2
        rw [hil2, List.take_length] at this
        exact this
      clear hil2 HI
      go_wp2_with fail
      refine (HIN.out wx _ HA.out.touch HA.out.sl).mono ?_
      rintro e w6 ⟨v6, rfl, hN6⟩
      have HN6 : Hid (NewP wx w6 v6 s) := hN6
      obtain ⟨ao6, cap6, rfl, _⟩ := hN6.shape
      clear hN6
      go_wp2_with fail
      refine (HCF.out w6 _ HN6.out.sl).mono ?_
      rintro e w7 ⟨rfl, t⟩
      have HN7 : Hid (NewP w w7 (.slice ao6 s.length cap6) s) := (HN6.out.on t).since HA.out.touch
      clear t HN6 HA
      go_wp2_with fail
      go_ret
      exact ⟨_, rfl, HN7.out⟩
end Go.Proofs.YtmknkecaeagmbaaGreatDoor
