/- The contracts of quireref1.Reader: Uint, Fail. -/
import Derived.Test.YtdblfabbmpdoiaaGreatPart9
import Derived.Test.YtdblfabbmpdoiaaGreatPart5
import Derived.Deep.LoopGhost
namespace Go.Proofs.YtdblfabbmpdoiaaGreat
open Go.RowKit
set_option linter.unusedVariables false
set_option linter.unusedSimpArgs false
set_option maxRecDepth 100000

/-- Block s is the document's Reader with the bytes bs left, which lie in block g, and the error er. -/
def RR (w : World) (s g : Nat) (bs : List UInt8) (er : Int) : Prop :=
  ∃ ao cap, w.heap[s]? = some (.cells #[.slice ao bs.length cap, .int .i64 er] 45 (0, 0)) ∧ bs.length ≤ cap ∧ cap ≤ 9223372036854775807 ∧ Lies w g ao bs
theorem RR.ne {w : World} {s g : Nat} {bs : List UInt8} {er : Int} (h : RR w s g bs er) (e : bs ≠ []) : s ≠ g := by
  obtain ⟨ao, cap, hp, _, _, h⟩ := h
  rintro rfl
  rcases h with h | ⟨off, ha, h⟩
  · exact e h
  · have := h 0 (List.length_pos_iff.2 e)
    rw [cell_of_block hp] at this
    match off, this with
    | 0, this => simp at this
    | 1, this => simp at this
    | k + 2, this => simp at this
theorem RR.lt {w : World} {s g : Nat} {bs : List UInt8} {er : Int} (h : RR w s g bs er) : s < w.heap.size := by
  obtain ⟨ao, cap, hp, _⟩ := h
  exact lt_of_heap hp
theorem RR.keep {S : Nat → Prop} {w w' : World} {s g : Nat} {bs : List UInt8} {er : Int} (h : RR w s g bs er) (t : Touch S w w') (hs : ¬ S s) (hg : bs ≠ [] → ¬ S g) : RR w' s g bs er := by
  obtain ⟨ao, cap, hp, h1, h2, h3⟩ := h
  exact ⟨ao, cap, (t.block s (lt_of_heap hp) hs).trans hp, h1, h2, h3.keep fun e => t.block g (h3.lt e) (hg e)⟩
/-- With another error. -/
theorem RR.fails {w : World} {s g : Nat} {bs : List UInt8} {er : Int} (h : RR w s g bs er) (x : Int) : RR (w.setCell ⟨s, 1, none⟩ (.int .i64 x)) s g bs x := by
  have hn := h.ne
  obtain ⟨ao, cap, hp, h1, h2, h3⟩ := h
  exact ⟨ao, cap, by rw [heap_setCell_same _ _ _ _ hp]; rfl, h1, h2, h3.keep fun e => heap_setCell_other _ _ _ _ (hn e)⟩
theorem u8_and127 (b : UInt8) : bits .and .u8 (b.toNat : Int) 127 = bits .andNot .u8 (b.toNat : Int) 128 := by
  have h : ∀ x : Fin 256, bits .and .u8 ((x : Nat) : Int) 127 = bits .andNot .u8 ((x : Nat) : Int) 128 := by decide +kernel
  exact h ⟨b.toNat, b.toNat_lt⟩
theorem sliceB_from (vo : Option Addr) (n cap c : Nat) (h : c ≤ n) (W : World) : (Instr.slice 23 (.slice vo n cap) (some (.int .i64 (c : Int))) none none).run Tryz.prog W = .ok (.slice (if cap = c then vo else vo.map (·.add c)) (n - c) (cap - c)) W := by
  have h1 : (c : Int) ≤ (n : Int) := by omega
  have hu := Tryz.underlying23
  obtain ⟨i0, hi, hz0, hz1, hz2⟩ := info_parts Tryz.infoByte
  simp [Instr.slice, run_underlying hu, Instr.sliceBounds, run_sliceBound, h1, sizeOf, typeInfo, hi, hz1]

def RUPost (s g : Nat) (bs : List UInt8) (er : Int) (most : Nat) (w : World) (e : Ending) (w' : World) : Prop :=
  e = .returned (.int .u64 (rdUint bs er most).2.1) ∧ RR w' s g (rdUint bs er most).2.2 (rdUint bs er most).1 ∧ Touch (· = s) w w'
theorem RUPost.bad {s g : Nat} {bs : List UInt8} {most : Nat} {w : World} (h : RR w s g bs 0) (x : Int) (hx : x ≠ 0) (hr : rdU bs most = (x, 0, bs)) : RUPost s g bs 0 most w (.returned (.int .u64 0)) (w.setCell ⟨s, 1, none⟩ (.int .i64 x)) := by
  have e : rdUint bs 0 most = (x, 0, bs) := by unfold rdUint; rw [if_neg (by simp), hr]
  unfold RUPost
  rw [e]
  exact ⟨rfl, h.fails x, (Touch.refl _ _).setCell _ _ fun _ => rfl⟩
set_option maxHeartbeats 4000000 in
theorem refUint_any (s g : Nat) (bs : List UInt8) (er : Int) (most : Nat) (w : World) (h : RR w s g bs er) (hm : most < 18446744073709551616) (x : Int) (hx : x = most) :
    Calls Tryz.prog 37 #[.pointer (some ⟨s, 0, none⟩), .int .u64 x] w (RUPost s g bs er most w) := by
  subst hx
  have HR : Hid (RR w s g bs er) := h
  obtain ⟨ao, cap, hp, hl, hc, hL⟩ := h
  have c0 : w.cell? ⟨s, 0, none⟩ = some (.slice ao bs.length cap) := by rw [cell_of_block hp]; rfl
  have c1 : w.cell? ⟨s, 1, none⟩ = some (.int .i64 er) := by rw [cell_of_block hp]; rfl
  have f0 : w.frozen? ⟨s, 0, none⟩ = false := free_of_block hp
  have f1 : w.frozen? ⟨s, 1, none⟩ = false := free_of_block hp
  have HP : Hid (w.heap[s]? = some (.cells #[.slice ao bs.length cap, .int .i64 er] 45 (0, 0)) ∧ Lies w g ao bs) := ⟨hp, hL⟩
  clear hp hL
  by_cases he : er = 0
  case neg =>
    have h1 : (er == 0) = false := by simpa using he
    have HQ : Hid (RUPost s g bs er most w (.returned (.int .u64 0)) w) := by
      have e : rdUint bs er most = (er, 0, bs) := by unfold rdUint; rw [if_pos he]
      unfold RUPost
      rw [e]
      exact ⟨rfl, HR.out, Touch.refl _ _⟩
    go_enter Tryz.func37, Tryz.ntmps37
    go_wp2_with fail
    go_ret
    exact HQ.out
  case pos =>
  subst he
  have HBad : Hid (∀ x : Int, x ≠ 0 → rdU bs most = (x, 0, bs) → RUPost s g bs 0 most w (.returned (.int .u64 0)) (w.setCell ⟨s, 1, none⟩ (.int .i64 x))) := fun x hx hr => RUPost.bad HR.out x hx hr
  go_enter Tryz.func37, Tryz.ntmps37
  go_wp2_with fail
  go_loopg [5, 6] 10 (fun gg n i wr => ∃ k N : Nat, i = .int .i64 (k : Int) ∧ n = .int .u64 (N : Int) ∧ k + gg = 10 ∧ k ≤ 9 ∧ k ≤ bs.length ∧ N < 2 ^ (7 * k) ∧ wr = w ∧ Hid (numGo bs 0 0 = numGo (bs.drop k) k N))
  case atStart => exact ⟨0, 0, rfl, rfl, by omega, by omega, by omega, by decide, rfl, rfl⟩
  case round =>
    obtain ⟨k, N, rfl, rfl, hkg, hk, hkl, hN, hwr, HE⟩ := hrel
    rw [hwr]
    clear hwr
    by_cases hlt : k < bs.length
    case neg =>
      have hd : bs.drop k = [] := List.drop_eq_nil_of_le (by omega)
      have HQ : Hid (RUPost s g bs 0 most w (.returned (.int .u64 0)) (w.setCell ⟨s, 1, none⟩ (.int .i64 10))) := HBad.out 10 (by decide) (by
        have e := HE.out
        rw [hd, numGo] at e
        unfold rdU; rw [e]; simp)
      have hk2 : (bs.length : Int) ≤ (k : Int) := by omega
      clear hd HE
      go_wp2_with fail
      all_goals (go_ret; exact HQ.out)
    case pos =>
    have hcons : bs.drop k = bs[k] :: bs.drop (k + 1) := List.drop_eq_getElem_cons hlt
    have hb := bs[k].toNat_lt
    obtain ⟨off, rfl, hcell⟩ : ∃ off, ao = some ⟨g, off, none⟩ ∧ w.cell? ⟨g, off + k, none⟩ = some (.int .u8 bs[k].toNat) := by
      rcases HP.out.2 with h | ⟨off, ha, h⟩
      · rw [h] at hlt; simp at hlt
      · exact ⟨off, ha, h k hlt⟩
    have hA := u8_and127 bs[k]
    have HE2 : Hid (numGo bs 0 0 = numGo (bs[k] :: bs.drop (k + 1)) k N) := by rw [Hid, HE.out, hcons]
    obtain ⟨vo', n', cap', HS, HLr⟩ : ∃ vo' n' cap', (∀ W, (Instr.slice 23 (.slice (some ⟨g, off, none⟩) bs.length cap) (some (.int .i64 ((k : Int) + 1))) none none).run Tryz.prog W = .ok (.slice vo' n' cap') W) ∧ Hid (RR (w.setCell ⟨s, 0, none⟩ (.slice vo' n' cap')) s g (bs.drop (k + 1)) 0) := by
      refine ⟨_, _, _, fun W => sliceB_from _ bs.length cap (k + 1) (by omega) W, ?_⟩
      refine ⟨_, _, by rw [List.length_drop, heap_setCell_same _ _ _ _ HP.out.1]; rfl, by rw [List.length_drop]; omega, by omega, ?_⟩
      by_cases e : bs.drop (k + 1) = []
      · exact .inl e
      · have hne : cap ≠ k + 1 := fun hc => e (List.drop_eq_nil_of_le (by omega))
        rw [if_neg hne]
        have hbs : bs ≠ [] := by rintro rfl; simp at e
        exact (HP.out.2.map (k + 1)).keep fun _ => heap_setCell_other _ _ _ _ (HR.out.ne hbs)
    have HGood : Hid (∀ V (x : Int), numGo bs 0 0 = (0, V, bs.drop (k + 1)) → V ≤ most → x = V → RUPost s g bs 0 most w (.returned (.int .u64 x)) (w.setCell ⟨s, 0, none⟩ (.slice vo' n' cap'))) := fun V x h1 h2 h3 => by
      have e : rdUint bs 0 most = (0, V, bs.drop (k + 1)) := by unfold rdUint rdU; rw [if_neg (by simp), h1, if_neg (by simp), if_neg (by simp; omega)]
      unfold RUPost
      rw [e, h3]
      exact ⟨rfl, HLr.out, (Touch.refl _ _).setCell _ _ fun _ => rfl⟩
    have HForm : Hid (numGo bs 0 0 = (11, 0, []) → RUPost s g bs 0 most w (.returned (.int .u64 0)) (w.setCell ⟨s, 1, none⟩ (.int .i64 11))) := fun h => HBad.out 11 (by decide) (by unfold rdU; rw [h]; simp)
    have HBig : Hid (∀ V r, numGo bs 0 0 = (0, V, r) → most < V → RUPost s g bs 0 most w (.returned (.int .u64 0)) (w.setCell ⟨s, 1, none⟩ (.int .i64 12))) := fun V r h h2 => HBad.out 12 (by decide) (by unfold rdU; rw [h]; simp [h2])
    have i1 : (k : Int) < (bs.length : Int) := by omega
    have i2 : (0 : Int) ≤ (k : Int) := by omega
    have i3 : ¬ ((10 : Int) ≤ (k : Int)) := by omega
    clear hcons HE HBad HLr HP HR
    generalize bs[k] = b at *
    obtain ⟨tl, htl⟩ : ∃ tl, Hid (tl = bs.drop (k + 1)) := ⟨bs.drop (k + 1), Eq.refl (bs.drop (k + 1))⟩
    rw [← htl.out] at HE2 HGood
    by_cases h9 : k = 9 ∧ 1 < b.toNat
    · have HQ : Hid (RUPost s g bs 0 most w (.returned (.int .u64 0)) (w.setCell ⟨s, 1, none⟩ (.int .i64 11))) := HForm.out (by rw [HE2.out, numGo_form (.inl h9)])
      obtain ⟨rfl, h1⟩ := h9
      clear HGood HForm HBig HE2 htl
      go_wp2_with fail
      all_goals (go_ret; exact HQ.out)
    by_cases h128 : b.toNat < 128
    · have hge : ¬ ((128 : Int) ≤ (b.toNat : Int)) := by omega
      by_cases h0 : 0 < k ∧ b.toNat = 0
      · have HQ : Hid (RUPost s g bs 0 most w (.returned (.int .u64 0)) (w.setCell ⟨s, 1, none⟩ (.int .i64 11))) := HForm.out (by rw [HE2.out, numGo_form (.inr h0)])
        obtain ⟨h01, h02⟩ := h0
        have h03 : (b.toNat : Int) = 0 := by omega
        have h04 : (0 : Int) < (k : Int) := by omega
        clear HGood HForm HBig HE2 htl
        go_wp2_with fail
        all_goals (go_ret; exact HQ.out)
      · have HV : Hid (numGo bs 0 0 = (0, N + b.toNat * 2 ^ (7 * k), tl)) := by rw [Hid, HE2.out, numGo_last h9 h0 h128]
        by_cases hk9 : k = 9
        · subst hk9
          have hb1 : b.toNat ≤ 1 := by omega
          have hb0 : ((b.toNat : Int) == 0) = false := by rw [beq_eq_false_iff_ne]; omega
          have hb2 : ¬ ((1 : Int) < (b.toNat : Int)) := by omega
          obtain ⟨hE, _⟩ := num_last b N hb1 hN
          have HS10 : ∀ W, (Instr.slice 23 (.slice (some ⟨g, off, none⟩) bs.length cap) (some (.int .i64 10)) none none).run Tryz.prog W = .ok (.slice vo' n' cap') W := HS
          by_cases hmv : most < N + b.toNat * 2 ^ (7 * 9)
          · have hx : (most : Int) < bits .or .u64 (N : Int) (IntKind.u64.wrap (IntKind.u64.wrap (bits .andNot .u8 (b.toNat : Int) 128) * 9223372036854775808)) := by rw [hE]; omega
            have HQ : Hid (RUPost s g bs 0 most w (.returned (.int .u64 0)) (w.setCell ⟨s, 1, none⟩ (.int .i64 12))) := HBig.out _ _ HV.out hmv
            clear hE HGood HForm HBig HE2 htl HV
            go_wp2_with fail
            all_goals (go_ret; exact HQ.out)
          · have hx : ¬ (most : Int) < bits .or .u64 (N : Int) (IntKind.u64.wrap (IntKind.u64.wrap (bits .andNot .u8 (b.toNat : Int) 128) * 9223372036854775808)) := by rw [hE]; omega
            have HX : Hid (bits .or .u64 (N : Int) (IntKind.u64.wrap (IntKind.u64.wrap (bits .andNot .u8 (b.toNat : Int) 128) * 9223372036854775808)) = ((N + b.toNat * 2 ^ (7 * 9) : Nat) : Int)) := hE
            clear hE HForm HBig HE2 htl
            go_wp2_with fail
            all_goals (go_ret; exact HGood.out _ _ HV.out (by omega) HX.out)
        by_cases hbz : b.toNat = 0
        · obtain rfl : k = 0 := by omega
          obtain rfl : N = 0 := by simp at hN; omega
          have h03 : (b.toNat : Int) = 0 := by omega
          have hx : ¬ ((most : Int) < 0) := by omega
          have HV0 : Hid (numGo bs 0 0 = (0, 0, tl)) := by rw [Hid, HV.out, hbz]
          have HS1 : ∀ W, (Instr.slice 23 (.slice (some ⟨g, off, none⟩) bs.length cap) (some (.int .i64 1)) none none).run Tryz.prog W = .ok (.slice vo' n' cap') W := HS
          have hw0 : bits .or .u64 0 (IntKind.u64.wrap (IntKind.u64.wrap (bits .andNot .u8 0 128) * 1)) = 0 := by decide
          have hw1 : bits .or .u64 0 (IntKind.u64.wrap (IntKind.u64.wrap (bits .andNot .u8 0 128))) = 0 := by decide
          have hw2 : bits .andNot .u8 0 128 = 0 := by decide
          have hcell' : w.cell? ⟨g, off, none⟩ = some (.int .u8 (b.toNat : Int)) := hcell
          have hL2 : 0 < bs.length := by omega
          clear HForm HBig HE2 htl HV hbz hk9 h0 h9 hcell i1 i2 i3 hkl hlt HS hl
          generalize bs.length = L at *
          have hL1 : ¬ (L = 0) := by omega
          have hL3 : ¬ ((L : Int) ≤ 0) := by omega
          have hL4 : (0 : Int) < (L : Int) := by omega
          go_wp2_with fail
          all_goals (go_ret; exact HGood.out 0 _ HV0.out (by omega) (by first | rfl | decide))
        · obtain ⟨hE, _⟩ := num_step b k N (by omega) hN
          rw [Nat.mod_eq_of_lt h128] at hE
          have hk9' : ((k : Int) == 9) = false := by rw [beq_eq_false_iff_ne]; omega
          have hb0 : ((b.toNat : Int) == 0) = false := by rw [beq_eq_false_iff_ne]; omega
          by_cases hmv : most < N + b.toNat * 2 ^ (7 * k)
          · have hx : (most : Int) < bits .or .u64 (N : Int) (IntKind.u64.wrap (IntKind.u64.wrap (bits .andNot .u8 (b.toNat : Int) 128) * 2 ^ (7 * k))) := by rw [hE]; omega
            have HQ : Hid (RUPost s g bs 0 most w (.returned (.int .u64 0)) (w.setCell ⟨s, 1, none⟩ (.int .i64 12))) := HBig.out _ _ HV.out hmv
            clear hE HGood HForm HBig HE2 htl HV
            go_wp2_with fail
            all_goals (go_ret; exact HQ.out)
          · have hx : ¬ (most : Int) < bits .or .u64 (N : Int) (IntKind.u64.wrap (IntKind.u64.wrap (bits .andNot .u8 (b.toNat : Int) 128) * 2 ^ (7 * k))) := by rw [hE]; omega
            have HX : Hid (bits .or .u64 (N : Int) (IntKind.u64.wrap (IntKind.u64.wrap (bits .andNot .u8 (b.toNat : Int) 128) * 2 ^ (7 * k))) = ((N + b.toNat * 2 ^ (7 * k) : Nat) : Int)) := hE
            clear hE HForm HBig HE2 htl
            go_wp2_with fail
            all_goals (go_ret; exact HGood.out _ _ HV.out (by omega) HX.out)
    · have hk8 : k ≤ 8 := by omega
      have hge : (128 : Int) ≤ (b.toNat : Int) := by omega
      have hk9' : ((k : Int) == 9) = false := by rw [beq_eq_false_iff_ne]; omega
      have HV : Hid (numGo bs 0 0 = numGo tl (k + 1) (N + (b.toNat - 128) * 2 ^ (7 * k))) := by rw [Hid, HE2.out, numGo_more h9 h128]
      obtain ⟨hE, hN'⟩ := num_step b k N hk8 hN
      rw [show b.toNat % 128 = b.toNat - 128 from by omega] at hE hN'
      have HX : Hid (bits .or .u64 (N : Int) (IntKind.u64.wrap (IntKind.u64.wrap (bits .andNot .u8 (b.toNat : Int) 128) * 2 ^ (7 * k))) = ((N + (b.toNat - 128) * 2 ^ (7 * k) : Nat) : Int)) := hE
      have HN : Hid (N + (b.toNat - 128) * 2 ^ (7 * k) < 2 ^ (7 * (k + 1))) := hN'
      clear hE hN' HForm HBig HE2 HGood
      go_wp2_with fail
      all_goals
        go_roundg (10 - (k + 1))
        case measure => omega
        case rel => exact ⟨k + 1, _, by go_num, by rw [HX.out], by omega, by omega, by omega, HN.out, rfl, by rw [Hid, ← htl.out]; exact HV.out⟩
end Go.Proofs.YtdblfabbmpdoiaaGreat
