/- The contract of the document's sorted: a rising list with one more number, once. -/
import Derived.Test.YtccgiabihagjoaaRowU
import Derived.Deep.LoopGhost
import Derived.BigQuiet
namespace Go.Proofs.Ytccgiabihagjoaa
open Go.RowKit Go.Maps
set_option linter.unusedVariables false
set_option linter.unusedSimpArgs false
set_option maxRecDepth 100000

theorem insU_len (ss : List Int) (x : Int) (p : Nat) (hp : p ≤ ss.length) : (ss.take p ++ x :: ss.drop p).length = ss.length + 1 := by simp; omega
theorem shiftU_set (ss : List Int) (y : Int) (k : Nat) (h0 : 0 < k) (hk : k ≤ ss.length) (hk1 : k - 1 < ss.length) : (ss.take k ++ y :: ss.drop k).set k ss[k - 1] = ss.take (k - 1) ++ ss[k - 1] :: ss.drop (k - 1) := by
  have hl : (ss.take k).length = k := by simp; omega
  rw [List.set_append_right _ _ (by omega), hl, Nat.sub_self, List.set_cons_zero]
  have e1 : ss.take k = ss.take (k - 1) ++ [ss[k - 1]] := by
    have := List.take_succ_eq_append_getElem hk1
    rwa [show k - 1 + 1 = k from by omega] at this
  have e2 : ss.drop (k - 1) = ss[k - 1] :: ss.drop k := by
    have := List.drop_eq_getElem_cons hk1
    rwa [show k - 1 + 1 = k from by omega] at this
  rw [e2, e1, List.append_assoc]
  rfl
theorem putU_set (ss : List Int) (y x : Int) (k : Nat) (hk : k ≤ ss.length) : (ss.take k ++ y :: ss.drop k).set k x = ss.take k ++ x :: ss.drop k := by
  have hl : (ss.take k).length = k := by simp; omega
  rw [List.set_append_right _ _ (by omega), hl, Nat.sub_self, List.set_cons_zero]
theorem NewU.put {W w : World} {g cap : Nat} {l : List Int} (h : NewU W w (.slice (some ⟨g, 0, none⟩) l.length cap) l) (j : Nat) (hj : j < l.length) (r : Int) :
    NewU W (w.setCell ⟨g, j, none⟩ (.int .u64 r)) (.slice (some ⟨g, 0, none⟩) l.length cap) (l.set j r) := by
  have h1 := OwnU.set h rfl j (by omega) (.int .u64 r) rfl
  have e := cellsU_set l j hj r
  rw [Nat.mul_one] at e
  rw [e] at h1
  unfold NewU
  rw [List.length_set]; exact h1
/-- l with n in it. -/
structure InsU (l : List Int) (n : Int) (m : List Int) : Prop where
  asc : m.Pairwise (fun a b => a < b)
  mem : ∀ x, x ∈ m ↔ x ∈ l ∨ x = n
  len : m.length ≤ l.length + 1
theorem InsU.same {l : List Int} {n : Int} (h : l.Pairwise (fun a b => a < b)) (hn : n ∈ l) : InsU l n l :=
  ⟨h, fun x => ⟨.inl, fun q => q.elim id fun e => e ▸ hn⟩, by omega⟩
theorem InsU.ins {l : List Int} {n : Int} {p : Nat} (h : l.Pairwise (fun a b => a < b)) (hp : p ≤ l.length) (h1 : ∀ j (hj : j < l.length), j < p → l[j] < n) (h2 : ∀ j (hj : j < l.length), p ≤ j → n < l[j]) : InsU l n (l.take p ++ n :: l.drop p) := by
  have ha := h
  rw [← List.take_append_drop p l, List.pairwise_append] at ha
  refine ⟨?_, fun x => ?_, by rw [insU_len l n p hp]; omega⟩
  · rw [List.pairwise_append]
    refine ⟨ha.1, List.pairwise_cons.2 ⟨fun y hy => ?_, ha.2.1⟩, fun y hy z hz => ?_⟩
    · obtain ⟨j, hj, rfl⟩ := List.getElem_of_mem hy
      rw [List.getElem_drop]
      exact h2 _ (by simp at hj; omega) (by omega)
    · rcases List.mem_cons.1 hz with rfl | hz
      · obtain ⟨j, hj, rfl⟩ := List.getElem_of_mem hy
        rw [List.getElem_take]
        simp at hj
        exact h1 _ (by omega) (by omega)
      · exact ha.2.2 y hy z hz
  · rw [List.mem_append, List.mem_cons]
    have e : x ∈ l ↔ x ∈ l.take p ∨ x ∈ l.drop p := by rw [← List.mem_append, List.take_append_drop]
    rw [e]
    constructor
    · rintro (q | q | q)
      · exact .inl (.inl q)
      · exact .inr q
      · exact .inl (.inr q)
    · rintro ((q | q) | q)
      · exact .inl q
      · exact .inr (.inr q)
      · exact .inr (.inl q)

set_option maxHeartbeats 8000000 in
theorem sortedU_any (W w : World) (v : Value) (l : List Int) (n : Int) (h : NewU W w v l) (hr : l.Pairwise (fun a b => a < b)) (hll : l.length ≤ 536870912) :
    Calls Try.prog 55 #[v, .int .u64 n] w fun e w' => ∃ v' m, e = .returned v' ∧ NewU W w' v' m ∧ InsU l n m := by
  have HN : Hid (NewU W w v l) := h
  have HR : Hid (l.Pairwise (fun a b => a < b)) := hr
  obtain ⟨ao, cap, rfl, _⟩ := h.shape
  clear h hr
  go_enter Try.func55, Try.ntmps55
  go_wp2_with fail
  go_loopg [5] l.length (fun g s5 wx => ∃ p : Nat, p + g = l.length ∧ s5 = .int .i64 (p : Int) ∧ wx = w ∧ Hid (∀ j (hj : j < l.length), j < p → l[j] < n))
  case atStart => exact ⟨0, by omega, rfl, rfl, fun j _ h => by omega⟩
  case round =>
    obtain ⟨p, hpg, rfl, rfl, HI⟩ := hrel
    by_cases hps : p < l.length
    · have hne2 : l ≠ [] := by rintro rfl; simp at hps
      obtain ⟨b3, o3, cp3, e3, _, _, hb3, hrow3⟩ := HN.out.sl.row hne2
      obtain ⟨rfl, _, rfl⟩ : ao = some ⟨b3, o3, none⟩ ∧ True ∧ cap = cp3 := by simpa using e3
      have z0 := hrow3 p hps
      rw [Nat.mul_one] at z0
      have i2 : (p : Int) < (l.length : Int) := by omega
      have i3 : (0 : Int) ≤ (p : Int) := by omega
      have HAs : Hid (∀ j k (hj : j < l.length) (hk : k < l.length), j ≤ k → l[j] ≤ l[k]) := fun j k hj hk hjk => by
        rcases Nat.lt_or_ge j k with g | g
        · exact Int.le_of_lt (List.pairwise_iff_getElem.1 HR.out j k hj hk g)
        · obtain rfl : j = k := by omega
          exact Int.le_refl _
      have HSp : Hid (l[p] < n → ∀ j (hj : j < l.length), j < p + 1 → l[j] < n) := fun hz j hj hjp => by
        have := HAs.out j p hj hps (by omega)
        omega
      have HSe : Hid (l[p] = n → InsU l n l) := fun h => InsU.same HR.out (h ▸ List.getElem_mem hps)
      have HSg : Hid (n < l[p] → InsU l n (l.take p ++ n :: l.drop p)) := fun hz => InsU.ins HR.out (by omega) HI.out fun j hj hpj => by
        have := HAs.out p j hps hj hpj
        omega
      clear hrow3 e3 hne2 HAs
      generalize l[p] = z at *
      by_cases hz : z < n
      · have HS2 : Hid (∀ j (hj : j < l.length), j < p + 1 → l[j] < n) := HSp.out hz
        clear HSp HSe HSg
        go_wp2_with fail
        go_roundg (l.length - (p + 1))
        case measure => omega
        case rel => exact ⟨p + 1, by omega, by go_num, rfl, HS2.out⟩
      · have hz2 : decide (z < n) = false := by simpa using hz
        by_cases he : z = n
        · have HQ : Hid (InsU l n l) := HSe.out he
          subst he
          clear HSp HSe HSg
          go_wp2_with fail
          refine bodyPost_ret (v := .slice (some ⟨b3, o3, none⟩) l.length cap) (by simp [results, Try.results55, go_sem]) rfl ?_
          first | exact ⟨_, _, rfl, HN.out, HQ.out⟩ | exact ⟨_, rfl, _, HN.out, HQ.out⟩
        · have he1 : (z == n) = false := by simpa using he
          have HIns : Hid (InsU l n (l.take p ++ n :: l.drop p)) := HSg.out (by omega)
          have hpl : p ≤ l.length := by omega
          clear HSp HSe HSg HI HR
          obtain ⟨v5, w5, hrun, hN5, hgr⟩ := NewU.app1 HN.out 0 (by omega)
          have HA : Hid (NewU W w5 v5 (l.take l.length ++ 0 :: l.drop l.length)) := by rw [List.take_length, List.drop_length]; exact hN5
          have hl5 : (l ++ [(0 : Int)]).length = l.length + 1 := by simp
          obtain ⟨ao5, cap5, hv5, hg5, hc5, hm5⟩ := hN5.shape
          rw [hl5] at hv5 hg5 hc5
          obtain ⟨g5, rfl⟩ := hg5 (by omega)
          subst hv5
          clear hN5 hgr HN
          go_wp2_with (at_builtin; refine wpList_append_runU rfl _ _ rfl _ _ _ rfl rfl hrun ?_)
          clear hrun
          go_loopg [6] (l.length - p) (fun g s6 wx => ∃ (k : Nat) (y : Int), k ≤ p + g ∧ p ≤ k ∧ k ≤ l.length ∧ s6 = .int .i64 (k : Int) ∧ Hid (NewU W wx (.slice (some ⟨g5, 0, none⟩) (l.length + 1) cap5) (l.take k ++ y :: l.drop k)))
          case atStart => exact ⟨l.length, 0, by omega, by omega, Nat.le_refl _, by go_num, HA.out⟩
          case round =>
            obtain ⟨k, y, hkg, hlk, hks, rfl, HN⟩ := hrel
            obtain ⟨wy, hwy⟩ : ∃ wy, wy = wr := ⟨_, rfl⟩
            subst hwy
            have hlen := insU_len l y k hks
            have HNe : Hid (NewU W wy (.slice (some ⟨g5, 0, none⟩) (l.take k ++ y :: l.drop k).length cap5) (l.take k ++ y :: l.drop k)) := by rw [hlen]; exact HN.out
            have hnn : l.take k ++ y :: l.drop k ≠ [] := by simp
            obtain ⟨b6, o6, cp6, e6, _, _, hb6, hrow6⟩ := HNe.out.sl.row hnn
            simp only [Value.slice.injEq, Option.some.injEq, Addr.mk.injEq] at e6
            obtain ⟨⟨rfl, rfl, _⟩, _, rfl⟩ := e6
            have hfz : ∀ q, wy.frozen? ⟨g5, q, none⟩ = false := fun q => HNe.out.free rfl (by rw [hlen]; omega) q
            by_cases hkl : p < k
            · obtain ⟨kk, rfl⟩ : ∃ kk, k = kk + 1 := ⟨k - 1, by omega⟩
              have hkk : kk < l.length := by omega
              have hel : ∀ hj, (l.take (kk + 1) ++ y :: l.drop (kk + 1))[kk]'hj = l[kk] := fun hj => by
                rw [List.getElem_append_left (by simp; omega), List.getElem_take]
              have hz := hrow6 kk (by rw [hlen]; omega)
              rw [hel] at hz
              have hz2 := hrow6 (kk + 1) (by rw [hlen]; omega)
              have HSt : Hid (NewU W (wy.setCell ⟨g5, kk + 1, none⟩ (.int .u64 l[kk])) (.slice (some ⟨g5, 0, none⟩) (l.length + 1) cap5) (l.take kk ++ l[kk] :: l.drop kk)) := by
                have := NewU.put HNe.out (kk + 1) (by rw [hlen]; omega) l[kk]
                have hsh := shiftU_set l y (kk + 1) (by omega) hks (by omega)
                simp only [Nat.add_sub_cancel] at hsh
                rw [hsh, hlen] at this
                exact this
              simp only [Nat.zero_add, Nat.mul_one] at hz hz2
              generalize (l.take (kk + 1) ++ y :: l.drop (kk + 1))[kk + 1] = y2 at *
              generalize l[kk] = zz at *
              have f0 := hfz (kk + 1)
              have i1 : IntKind.i64.wrap (kk : Int) = (kk : Int) := by simp [IntKind.wrap, IntKind.bits, IntKind.signed]; omega
              clear hrow6 hel hnn hlen HNe HN hfz HIns
              go_wp2_with fail
              go_roundg (kk - p)
              case measure => omega
              case rel => exact ⟨kk, _, by omega, by omega, by omega, by go_num, HSt.out⟩
            · have hkk : k = p := by omega
              subst hkk
              have hz2 := hrow6 k (by rw [hlen]; omega)
              have HSt : Hid (NewU W (wy.setCell ⟨g5, k, none⟩ (.int .u64 n)) (.slice (some ⟨g5, 0, none⟩) (l.length + 1) cap5) (l.take k ++ n :: l.drop k)) := by
                have := NewU.put HNe.out k (by rw [hlen]; omega) n
                rw [putU_set l y n k hks, hlen] at this
                exact this
              simp only [Nat.zero_add, Nat.mul_one] at hz2
              generalize (l.take k ++ y :: l.drop k)[k] = y2 at *
              have f0 := hfz k
              have hlen2 := insU_len l n k hks
              have HLn : Hid ((l.take k ++ n :: l.drop k).length = l.length + 1) := hlen2
              have i6 : (k : Int) < (l.length : Int) + 1 := by omega
              have i7 : (0 : Int) ≤ (k : Int) := by omega
              clear hrow6 hnn hlen HNe HN hfz hlen2
              go_wp2_with fail
              refine bodyPost_ret (v := .slice (some ⟨g5, 0, none⟩) (l.length + 1) cap5) (by simp [results, Try.results55, go_sem]) rfl ?_
              first | exact ⟨_, _, rfl, HSt.out, HIns.out⟩ | exact ⟨_, rfl, _, HSt.out, HIns.out⟩
    · have HIns : Hid (InsU l n (l.take p ++ n :: l.drop p)) := InsU.ins HR.out (by omega) HI.out fun j hj h => by omega
      have hnp : ¬ (p : Int) < (l.length : Int) := by omega
      have hpl : p ≤ l.length := by omega
      clear HI HR
      obtain ⟨v5, w5, hrun, hN5, hgr⟩ := NewU.app1 HN.out 0 (by omega)
      have HA : Hid (NewU W w5 v5 (l.take l.length ++ 0 :: l.drop l.length)) := by rw [List.take_length, List.drop_length]; exact hN5
      have hl5 : (l ++ [(0 : Int)]).length = l.length + 1 := by simp
      obtain ⟨ao5, cap5, hv5, hg5, hc5, hm5⟩ := hN5.shape
      rw [hl5] at hv5 hg5 hc5
      obtain ⟨g5, rfl⟩ := hg5 (by omega)
      subst hv5
      clear hN5 hgr HN
      go_wp2_with (at_builtin; refine wpList_append_runU rfl _ _ rfl _ _ _ rfl rfl hrun ?_)
      clear hrun hnp hps
      go_loopg [6] (l.length - p) (fun g s6 wx => ∃ (k : Nat) (y : Int), k ≤ p + g ∧ p ≤ k ∧ k ≤ l.length ∧ s6 = .int .i64 (k : Int) ∧ Hid (NewU W wx (.slice (some ⟨g5, 0, none⟩) (l.length + 1) cap5) (l.take k ++ y :: l.drop k)))
      case atStart => exact ⟨l.length, 0, by omega, by omega, Nat.le_refl _, by go_num, HA.out⟩
      case round =>
        obtain ⟨k, y, hkg, hlk, hks, rfl, HN⟩ := hrel
        obtain ⟨wy, hwy⟩ : ∃ wy, wy = wr := ⟨_, rfl⟩
        subst hwy
        have hlen := insU_len l y k hks
        have HNe : Hid (NewU W wy (.slice (some ⟨g5, 0, none⟩) (l.take k ++ y :: l.drop k).length cap5) (l.take k ++ y :: l.drop k)) := by rw [hlen]; exact HN.out
        have hnn : l.take k ++ y :: l.drop k ≠ [] := by simp
        obtain ⟨b6, o6, cp6, e6, _, _, hb6, hrow6⟩ := HNe.out.sl.row hnn
        simp only [Value.slice.injEq, Option.some.injEq, Addr.mk.injEq] at e6
        obtain ⟨⟨rfl, rfl, _⟩, _, rfl⟩ := e6
        have hfz : ∀ q, wy.frozen? ⟨g5, q, none⟩ = false := fun q => HNe.out.free rfl (by rw [hlen]; omega) q
        by_cases hkl : p < k
        · obtain ⟨kk, rfl⟩ : ∃ kk, k = kk + 1 := ⟨k - 1, by omega⟩
          have hkk : kk < l.length := by omega
          have hel : ∀ hj, (l.take (kk + 1) ++ y :: l.drop (kk + 1))[kk]'hj = l[kk] := fun hj => by
            rw [List.getElem_append_left (by simp; omega), List.getElem_take]
          have hz := hrow6 kk (by rw [hlen]; omega)
          rw [hel] at hz
          have hz2 := hrow6 (kk + 1) (by rw [hlen]; omega)
          have HSt : Hid (NewU W (wy.setCell ⟨g5, kk + 1, none⟩ (.int .u64 l[kk])) (.slice (some ⟨g5, 0, none⟩) (l.length + 1) cap5) (l.take kk ++ l[kk] :: l.drop kk)) := by
            have := NewU.put HNe.out (kk + 1) (by rw [hlen]; omega) l[kk]
            have hsh := shiftU_set l y (kk + 1) (by omega) hks (by omega)
            simp only [Nat.add_sub_cancel] at hsh
            rw [hsh, hlen] at this
            exact this
          simp only [Nat.zero_add, Nat.mul_one] at hz hz2
          generalize (l.take (kk + 1) ++ y :: l.drop (kk + 1))[kk + 1] = y2 at *
          generalize l[kk] = zz at *
          have f0 := hfz (kk + 1)
          have i1 : IntKind.i64.wrap (kk : Int) = (kk : Int) := by simp [IntKind.wrap, IntKind.bits, IntKind.signed]; omega
          clear hrow6 hel hnn hlen HNe HN hfz HIns
          go_wp2_with fail
          go_roundg (kk - p)
          case measure => omega
          case rel => exact ⟨kk, _, by omega, by omega, by omega, by go_num, HSt.out⟩
        · have hkk : k = p := by omega
          subst hkk
          have hz2 := hrow6 k (by rw [hlen]; omega)
          have HSt : Hid (NewU W (wy.setCell ⟨g5, k, none⟩ (.int .u64 n)) (.slice (some ⟨g5, 0, none⟩) (l.length + 1) cap5) (l.take k ++ n :: l.drop k)) := by
            have := NewU.put HNe.out k (by rw [hlen]; omega) n
            rw [putU_set l y n k hks, hlen] at this
            exact this
          simp only [Nat.zero_add, Nat.mul_one] at hz2
          generalize (l.take k ++ y :: l.drop k)[k] = y2 at *
          have f0 := hfz k
          have hlen2 := insU_len l n k hks
          have HLn : Hid ((l.take k ++ n :: l.drop k).length = l.length + 1) := hlen2
          have i6 : (k : Int) < (l.length : Int) + 1 := by omega
          have i7 : (0 : Int) ≤ (k : Int) := by omega
          clear hrow6 hnn hlen HNe HN hfz hlen2
          go_wp2_with fail
          refine bodyPost_ret (v := .slice (some ⟨g5, 0, none⟩) (l.length + 1) cap5) (by simp [results, Try.results55, go_sem]) rfl ?_
          first | exact ⟨_, _, rfl, HSt.out, HIns.out⟩ | exact ⟨_, rfl, _, HSt.out, HIns.out⟩
end Go.Proofs.Ytccgiabihagjoaa
