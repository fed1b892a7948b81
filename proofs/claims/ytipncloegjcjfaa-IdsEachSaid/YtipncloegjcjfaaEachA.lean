/- The ids of a set one after another: ids.All's iterator. -/
import Derived.Test.YtipncloegjcjfaaIdAlg
namespace Go.Proofs.Ytipncloegjcjfaa
open Go.RowKit Go.Shelf
set_option linter.unusedVariables false
set_option linter.unusedSimpArgs false
set_option maxRecDepth 100000
attribute [local go_sem] Oper.semAt_some

/-- The clocks of a range up to n. -/
def upTo (r : Rg) (n : Int) : List (Int × Int) := (List.range (n - r.f).toNat).map fun (i : Nat) => (r.c, r.f + (i : Int))
def idsOf (l : List Rg) : List (Int × Int) := l.flatMap fun r => upTo r r.t
theorem upTo_start (r : Rg) : upTo r r.f = [] := by unfold upTo; simp
theorem upTo_step (r : Rg) {n : Int} (h : r.f ≤ n) : upTo r (n + 1) = upTo r n ++ [(r.c, n)] := by
  unfold upTo
  rw [show (n + 1 - r.f).toNat = (n - r.f).toNat + 1 from by omega, List.range_succ, List.map_append]
  congr 1
  simp only [List.map_cons, List.map_nil, List.cons.injEq, Prod.mk.injEq, true_and, and_true]
  omega
theorem upTo_len (r : Rg) {n : Int} (h : r.f ≤ n) : ((upTo r n).length : Int) = n - r.f := by unfold upTo; simp; omega
theorem idsOf_step (l : List Rg) {j : Nat} (h : j < l.length) : idsOf (l.take (j + 1)) = idsOf (l.take j) ++ upTo l[j] l[j].t := by
  unfold idsOf
  rw [List.take_succ_eq_append_getElem h, List.flatMap_append]; simp
theorem upTo_prefix (r : Rg) {n m : Int} (h0 : r.f ≤ n) (h : n ≤ m) : upTo r n <+: upTo r m := by
  obtain ⟨d, rfl⟩ : ∃ d : Nat, m = n + d := ⟨(m - n).toNat, by omega⟩
  induction d with
  | zero => simp
  | succ d ih =>
    have e := upTo_step r (n := n + d) (by omega)
    rw [show n + ((d + 1 : Nat) : Int) = n + (d : Int) + 1 from by omega, e]
    exact (ih (by omega)).trans (List.prefix_append _ _)
theorem idsOf_prefix (l : List Rg) (j : Nat) : idsOf (l.take j) <+: idsOf l := by
  have e : idsOf l = idsOf (l.take j) ++ idsOf (l.drop j) := by
    unfold idsOf; rw [← List.flatMap_append, List.take_append_drop]
  rw [e]; exact List.prefix_append _ _
theorem idsOf_pre (l : List Rg) {j : Nat} (h : j < l.length) {n : Int} (h0 : l[j].f ≤ n) (h1 : n ≤ l[j].t) : idsOf (l.take j) ++ upTo l[j] n <+: idsOf l := by
  have h2 := idsOf_prefix l (j + 1)
  rw [idsOf_step l h] at h2
  exact ((List.prefix_append_right_inj _).2 (upTo_prefix _ h0 h1)).trans h2
theorem idsOf_len (l : List Rg) (h : ∀ r ∈ l, r.ok = true) : ((idsOf l).length : Int) = cntR l := by
  induction l with
  | nil => rfl
  | cons r l ih =>
    have hr := Rg.ok_iff.1 (h r List.mem_cons_self)
    have e : idsOf (r :: l) = upTo r r.t ++ idsOf l := by unfold idsOf; rw [List.flatMap_cons]
    have := ih fun x hx => h x (List.mem_cons_of_mem _ hx)
    have := upTo_len r (n := r.t) (by omega)
    rw [e, List.length_append, cntR]; omega
/-- W' has what W had, but for the blocks of S, and what is no cells. -/
structure KeepC (S : Nat → Prop) (W W' : World) : Prop where
  size : W.heap.size ≤ W'.heap.size
  cells : ∀ k c t fr, W.heap[k]? = some (.cells c t fr) → ¬ S k → W'.heap[k]? = some (.cells c t fr)
theorem KeepC.trans {S : Nat → Prop} {A B C : World} (h : KeepC S A B) (k : KeepC S B C) : KeepC S A C :=
  ⟨Nat.le_trans h.size k.size, fun i c t fr e n => k.cells i c t fr (h.cells i c t fr e n) n⟩
theorem KeepC.put {S : Nat → Prop} (W : World) (l : Nat) (o o' : Obj) (h : W.heap[l]? = some o) (hc : o.isCells = false) : KeepC S W (W.putObj l o') :=
  ⟨by simp, fun k c t fr e n => by
    by_cases hk : k = l
    · subst hk; rw [h] at e; cases e; cases hc
    · rw [World.putObj_heap_other (fun q => hk q)]; exact e⟩
theorem KeepC.of {S : Nat → Prop} {W W' : World} (h : Touch S W W') : KeepC S W W' := ⟨h.size, fun k c t fr e n => (h.block k (lt_of_heap e) n).trans e⟩
theorem KeepC.slR {S : Nat → Prop} {W W' : World} (h : KeepC S W W') {v : Value} {l : List Rg} (hs : SlR W v l) (hn : ∀ b o m cp, v = .slice (some ⟨b, o, none⟩) m cp → ¬ S b) : SlR W' v l := by
  obtain ⟨ao, cap, e, h1, h2, h3, h4⟩ := hs
  refine ⟨ao, cap, e, h1, h2, h3, ?_⟩
  rcases h4 with h4 | ⟨b, o, rfl, hc⟩
  · exact .inl h4
  · refine .inr ⟨b, o, rfl, fun j u hu => ?_⟩
    have := hc j u hu
    cases hb : W.heap[b]? with
    | none => simp [World.cell?, hb] at this
    | some ob =>
      cases ob with
      | cells c t fr => rw [World.cell?_of_block (show W'.heap[b]? = W.heap[b]? from by rw [hb]; exact h.cells b c t fr hb (hn b o _ _ e))]; exact this
      | _ => simp [World.cell?, hb] at this
abbrev encI (p : Int × Int) : Array Value := #[idV p.1 p.2]

set_option maxHeartbeats 4000000 in
theorem all_stops (n B : Nat) (S : Nat → Prop) (ao : Option Addr) (cap : Nat) (out : List Rg) (w : World) (hB : w.heap[B]? = some (.cells #[.slice ao out.length cap] 22 (0, 0))) (hBS : ¬ S B) (hL : SlR w (.slice ao out.length cap) out)
    (hbS : ∀ b o m cp, Value.slice ao out.length cap = .slice (some ⟨b, o, none⟩) m cp → ¬ S b) (hS : ∀ k, S k → k < w.heap.size) (hok : ∀ r ∈ out, r.ok = true) (hll : out.length ≤ 1073741824) :
    SeqStopsK Fence.wide n Try.prog 70 #[.pointer (some ⟨B, 0, none⟩)] encI (KeepC S) (fun xs => xs = idsOf out) (fun pre => pre <+: idsOf out) (idsOf out).length w := fun yl J Jx W hW hJ hJx hY h0 => by
  have kW : KeepC S w W := ⟨hW.size, fun k c t fr e _ => (hW.block k (lt_of_heap e)).trans e⟩
  have cl1 : W.cell? ⟨B, 0, none⟩ = some (.slice ao out.length cap) := by rw [cell_of_block (kW.cells B _ _ _ hB hBS)]; rfl
  have HL : Hid (∀ wr, KeepC S W wr → SlR wr (.slice ao out.length cap) out) := fun wr h => (kW.trans h).slR hL hbS
  have HJ : Hid (AbidesFrom W.heap.size J) := hJ
  have HY : Hid _ := hY
  have HS : Hid (∀ k, w.heap.size ≤ k → ¬ S k) := fun k h q => by have := hS k q; omega
  have HWs : Hid (w.heap.size ≤ W.heap.size) := hW.size
  have HO : Hid (∀ r ∈ out, r.ok = true) := hok
  clear hJ hJx hY hL hB hbS hS kW hW hok
  refine callsIn_of_wp Try.func70 rfl trivial ?_ rfl
  simp only [Try.ntmps70, List.size_toArray, List.length_cons, List.length_nil, Nat.reduceAdd, Nat.reduceSub, Array.replicate_succ, Array.replicate_zero, List.push_toArray, List.append_toArray, List.nil_append, List.cons_append]
  gi_wp2_with fail
  gi_loopw [8] (fun i wr => ∃ j : Nat, i = .int .i64 (j : Int) ∧ j ≤ out.length ∧ KeepC S W wr ∧ J (idsOf (out.take j)) wr) (fun i _ => (out.length - intOf i).toNat)
  case atStart => exact ⟨0, rfl, Nat.zero_le _, ⟨Nat.le_refl _, fun _ _ _ _ e _ => e⟩, by simpa [idsOf] using h0⟩
  case round =>
    obtain ⟨j, rfl, hj, hK, hJr⟩ := hrel
    obtain ⟨wo, hwo⟩ : ∃ wo, wo = wr := ⟨_, rfl⟩
    subst hwo
    by_cases hlt : j < out.length
    · have hne : out ≠ [] := by rintro rfl; simp at hlt
      obtain ⟨b, o, cp, e, _, _, hb, hrow⟩ := (HL.out wo hK).row hne
      obtain ⟨rfl, _, rfl⟩ : ao = some ⟨b, o, none⟩ ∧ True ∧ cap = cp := by simpa using e
      obtain ⟨c0, c1, c2⟩ := hrow j hlt
      have HE : Hid (idsOf (out.take (j + 1)) = idsOf (out.take j) ++ upTo out[j] out[j].t) := idsOf_step out hlt
      have HPre : Hid (∀ n, out[j].f ≤ n → n ≤ out[j].t → idsOf (out.take j) ++ upTo out[j] n <+: idsOf out) := fun n h0 h1 => idsOf_pre out hlt h0 h1
      have hr := Rg.ok_iff.1 (HO.out out[j] (List.getElem_mem hlt))
      clear hrow e hne
      generalize out[j] = r at *
      obtain ⟨rc, rf, rt⟩ := r
      simp only at c0 c1 c2 hr
      have HX : Hid ((wo.alloc (rgO ⟨rc, rf, rt⟩)).heap[wo.heap.size]? = some (rgO ⟨rc, rf, rt⟩)) := heap_alloc_new wo _
      have HKo : Hid (KeepC S W (wo.alloc (rgO ⟨rc, rf, rt⟩))) := hK.trans (KeepC.of ((Touch.refl _ wo).alloc _))
      have HJo : Hid (J (idsOf (out.take j)) (wo.alloc (rgO ⟨rc, rf, rt⟩))) := HJ.out _ _ _ none hJr (World.grownBy_alloc wo _ none) (fun r e => by cases e)
      have HNs : Hid (¬ S wo.heap.size) := HS.out _ (Nat.le_trans HWs.out hK.size)
      clear hK hJr
      gi_wp2
      gi_loopw [5] (fun s5 wx => ∃ n : Int, s5 = .int .u64 n ∧ rf ≤ n ∧ n ≤ rt ∧ KeepC S (wo.alloc (rgO ⟨rc, rf, rt⟩)) wx ∧ J (idsOf (out.take j) ++ upTo ⟨rc, rf, rt⟩ n) wx) (fun s5 _ => (rt - intOf s5).toNat)
      case atStart => exact ⟨rf, rfl, Int.le_refl _, by omega, ⟨Nat.le_refl _, fun _ _ _ _ e _ => e⟩, by rw [show upTo ⟨rc, rf, rt⟩ rf = [] from upTo_start ⟨rc, rf, rt⟩, List.append_nil]; exact HJo.out⟩
      case round =>
        obtain ⟨m, rfl, hm0, hm1, hKx, hJx2⟩ := hrel
        obtain ⟨wx, hwx⟩ : ∃ wx, wx = wr := ⟨_, rfl⟩
        subst hwx
        have bx := hKx.cells _ _ _ _ HX.out HNs.out
        have k0 : wx.cell? ⟨wo.heap.size, 0, none⟩ = some (.int .u64 rc) := by rw [cell_of_block bx]; rfl
        have k2 : wx.cell? ⟨wo.heap.size, 2, none⟩ = some (.int .u64 rt) := by rw [cell_of_block bx]; rfl
        by_cases hlt2 : m < rt
        · have HU : Hid (idsOf (out.take j) ++ upTo ⟨rc, rf, rt⟩ (m + 1) = (idsOf (out.take j) ++ upTo ⟨rc, rf, rt⟩ m) ++ [(rc, m)]) := by
            rw [Hid, show upTo ⟨rc, rf, rt⟩ (m + 1) = upTo ⟨rc, rf, rt⟩ m ++ [(rc, m)] from upTo_step ⟨rc, rf, rt⟩ hm0, List.append_assoc]
          have HP1 : Hid (idsOf (out.take j) ++ upTo ⟨rc, rf, rt⟩ (m + 1) <+: idsOf out) := HPre.out (m + 1) (by show rf ≤ m + 1; omega) (by show m + 1 ≤ rt; omega)
          have hlen : (idsOf (out.take j) ++ upTo ⟨rc, rf, rt⟩ m).length < (idsOf out).length := by
            have := HP1.out.length_le
            rw [HU.out, List.length_append] at this
            simp only [List.length_singleton] at this; omega
          obtain ⟨fn, tmps, assign, body, hy, hR⟩ := HY.out _ (rc, m) wx hJx2 hlen
          clear hlen bx
          gi_wp2
          refine ⟨wide1, hR.mono ?_⟩
          rintro e W3 (⟨rfl, hJ3, hk3⟩ | ⟨rfl, hJx3⟩)
          · clear hy hR
            gi_wp2
            go_roundw
            case rel => exact ⟨m + 1, by go_num, by omega, by omega, hKx.trans hk3, by rw [HU.out]; exact hJ3⟩
            case measure => simp [intOf]; omega
          · gi_wp2
            refine bodyPost_ret (results_none rfl _ _ _) rfl ?_
            exact ⟨⟨_, rfl⟩, .inr ⟨_, by rw [← HU.out]; exact HP1.out, hJx3⟩⟩
        · have hmt : m = rt := by omega
          subst hmt
          have HJ2 : Hid (J (idsOf (out.take (j + 1))) wx) := by rw [Hid, HE.out]; exact hJx2
          clear bx hJx2
          gi_wp2
          go_roundw
          case rel => exact ⟨j + 1, by go_num, by omega, HKo.out.trans hKx, HJ2.out⟩
          case measure => simp [intOf]; omega
    · have hjl : j = out.length := by omega
      subst hjl
      rw [List.take_length] at hJr
      gi_wp2
      go_end0
      exact ⟨⟨_, rfl⟩, .inl ⟨_, rfl, hJr⟩⟩
set_option maxHeartbeats 800000 in
theorem all_any (l : List Rg) (v : Value) (w : World) (hs : SlR w v l) (hll : l.length ≤ 1073741824) :
    Calls Try.prog 52 #[v] w fun e w' => ∃ B ao cap out, e = .returned (.func (.func 70) #[] #[.pointer (some ⟨B, 0, none⟩)]) ∧ w'.heap[B]? = some (.cells #[.slice ao out.length cap] 22 (0, 0)) ∧ w.heap.size ≤ B ∧ SlR w' (.slice ao out.length cap) out ∧ (∀ b o m cp, Value.slice ao out.length cap = .slice (some ⟨b, o, none⟩) m cp → w.heap.size ≤ b) ∧ Form (tns out) (turnOf (tns l)) ∧ out.length ≤ l.length ∧ Touch (fun _ => False) w w' := by
  have HC := cleanI_any l v w hs hll
  obtain ⟨ao, cap, rfl, _⟩ := hs
  go_enter Try.func52, Try.ntmps52
  go_wp2_with fail
  refine HC.mono ?_
  rintro e w1 ⟨v1, out, rfl, hN, hF, hol⟩
  have HF : Hid (NewR w w1 v1 out ∧ Form (tns out) (turnOf (tns l))) := ⟨hN, hF⟩
  obtain ⟨ao1, cap1, rfl, _⟩ := hN.shape
  clear hN hF HC
  go_wp2_with fail
  go_ret
  refine ⟨w1.heap.size, ao1, cap1, out, rfl, heap_alloc_new w1 _, HF.out.1.touch.size, HF.out.1.sl.touch ((Touch.refl _ w1).alloc _), fun b o m cp e => ?_, HF.out.2, hol, HF.out.1.touch.alloc _⟩
  simp only [Value.slice.injEq] at e
  exact HF.out.1.fresh b (by rw [e.1]; rfl)
set_option maxHeartbeats 800000 in
theorem place_any (k : Int) (w : World) (h0 : -9223372036854775808 ≤ k) (h1 : k ≤ 9223372036854775807) : Calls Try.prog 26 #[.int .i64 k, .int .i64 300] w fun e w' => ∃ p : Nat, e = .returned (.int .i64 (p : Int)) ∧ p < 300 ∧ w' = w := by
  have ha := Int.tmod_lt_of_pos k (b := 300) (by omega)
  have hb : -300 < k.tmod 300 := by
    have := Int.lt_tmod_of_pos k (b := 300) (by omega)
    omega
  generalize ht : k.tmod 300 = t at *
  by_cases hn : t < 0
  · obtain ⟨p, hp⟩ : ∃ p : Nat, (p : Int) = t + 300 := ⟨(t + 300).toNat, by omega⟩
    have HP : Hid ((p : Int) = t + 300) := hp
    clear hp
    go_enter Try.func26, Try.ntmps26
    go_wp2_with fail
    go_ret
    exact ⟨p, by rw [HP.out]; rfl, by have := HP.out; omega, rfl⟩
  · obtain ⟨p, hp⟩ : ∃ p : Nat, (p : Int) = t := ⟨t.toNat, by omega⟩
    have HP : Hid ((p : Int) = t) := hp
    clear hp
    go_enter Try.func26, Try.ntmps26
    go_wp2_with fail
    go_ret
    exact ⟨p, by rw [HP.out]; rfl, by have := HP.out; omega, rfl⟩
end Go.Proofs.Ytipncloegjcjfaa
