/- The contracts of ids.rightTurn and settled. -/
import Derived.Test.YtccgiabihagjoaaIdSets
import Derived.Test.YtccgiabihagjoaaOnlyT
import Derived.Deep.RegionHeld3
import Derived.Deep.DeepCutAuto
namespace Go.Proofs.Ytccgiabihagjoaa
open Go.RowKit Go.Maps
set_option linter.unusedVariables false
set_option linter.unusedSimpArgs false
set_option maxRecDepth 100000

set_option maxHeartbeats 800000 in
theorem rightTurn_any (t : Tn) (w : World) : Calls Try.prog 23 #[tnV t] w fun e w' => e = .returned (.bool t.ok) ∧ Grows w w' := by
  have h1 := fun W => rangeOf_any t W
  have h2 := fun W => rightRange_any t.rg W
  have h3 := fun W => rightNumber_any t.n W
  unfold Tn.ok
  generalize t.rg.ok = b at h2 ⊢
  generalize numOk t.n = d at h3 ⊢
  obtain ⟨c, f, t, n⟩ := t
  simp only [Tn.rg] at h1 h2 h3
  cases b with
  | false =>
    go_enter Try.func23, Try.ntmps23
    go_wp2_with (first | (go_at_call 25; refine (h1 _).mono ?_; rintro e w' ⟨rfl, rfl⟩) | (go_at_call 32; refine (h2 _).mono ?_; rintro e w' ⟨rfl, rfl⟩))
    go_ret
    exact ⟨by simp, ((((Grows.refl w).alloc _).alloc _).alloc _).alloc _⟩
  | true =>
    go_enter Try.func23, Try.ntmps23
    go_wp2_with (first | (go_at_call 25; refine (h1 _).mono ?_; rintro e w' ⟨rfl, rfl⟩) | (go_at_call 32; refine (h2 _).mono ?_; rintro e w' ⟨rfl, rfl⟩) | (go_at_call 41; refine (h3 _).mono ?_; rintro e w' ⟨rfl, rfl⟩))
    go_ret
    exact ⟨by simp, ((((Grows.refl w).alloc _).alloc _).alloc _).alloc _⟩

def chain : List Tn → Bool
  | [] => true
  | [_] => true
  | x :: y :: l => follows x y && chain (y :: l)
theorem chain_iff : ∀ (l : List Tn), chain l = true ↔ ∀ j (h : j + 1 < l.length), follows l[j] l[j+1] = true
  | [] => by simp [chain]
  | [x] => by simp [chain]
  | x :: y :: l => by
    rw [chain, Bool.and_eq_true, chain_iff (y :: l)]
    constructor
    · rintro ⟨h1, h2⟩ j h
      cases j with
      | zero => exact h1
      | succ j => exact h2 j (by simpa using h)
    · intro h
      exact ⟨h 0 (by simp), fun j hj => h (j+1) (by simpa using hj)⟩
theorem chain_canon : ∀ {l : List Tn}, chain l = true → (∀ x ∈ l, x.ok = true) → Canon l
  | [], _, _ => trivial
  | [x], _, h => h x List.mem_cons_self
  | x :: y :: l, h, ho => by
    rw [chain, Bool.and_eq_true] at h
    exact ⟨ho x List.mem_cons_self, h.1, chain_canon h.2 fun z hz => ho z (List.mem_cons_of_mem _ hz)⟩
theorem Canon.chain : ∀ {l : List Tn}, Canon l → chain l = true
  | [], _ => rfl
  | [x], _ => rfl
  | x :: y :: l, h => by
    rw [Go.Proofs.Ytccgiabihagjoaa.chain, h.2.1, Canon.chain h.2.2]; rfl

set_option maxHeartbeats 1600000 in
theorem settled_any (l : List Tn) (v : Value) (w : World) (hs : SlT w v l) (hll : l.length ≤ 1073741824) :
    Calls Try.prog 38 #[v] w fun e w' => e = .returned (.bool (chain l)) ∧ Touch (fun _ => False) w w' := by
  have HSl : Hid (SlT w v l) := hs
  obtain ⟨ao1, cap1, rfl, _⟩ := hs
  go_enter Try.func38, Try.ntmps38
  go_wp2_with fail
  go_loopg [3] (l.length - 1) (fun g s3 wx => ∃ (j : Nat), 1 ≤ j ∧ g = l.length - j ∧ s3 = .int .i64 (j : Int) ∧ (j ≤ l.length ∨ j = 1) ∧ Hid (Touch (fun _ => False) w wx ∧ ∀ i (h : i + 1 < l.length), i + 1 < j → follows l[i] l[i+1] = true))
  case atStart => exact ⟨1, by omega, rfl, rfl, .inr rfl, ⟨Touch.refl _ _, fun i h h2 => by omega⟩⟩
  case round =>
    obtain ⟨j, hj1, rfl, rfl, hjl, H⟩ := hrel
    by_cases hlt : j < l.length
    · have hne : l ≠ [] := by rintro rfl; simp at hlt
      obtain ⟨b, o, cp, e, _, _, hb, hrow⟩ := (HSl.out.touch H.out.1).row hne
      obtain ⟨rfl, _, rfl⟩ : ao1 = some ⟨b, o, none⟩ ∧ True ∧ cap1 = cp := by simpa using e
      obtain ⟨m, hm⟩ : ∃ m, j = m + 1 := ⟨j - 1, by omega⟩
      obtain ⟨c0, c1, c2, c3⟩ := hrow m (by omega)
      obtain ⟨d0, d1, d2, d3⟩ := hrow j hlt
      have hml : m < l.length := by omega
      have HE : Hid (follows l[m] l[j] = true → ∀ i (h : i + 1 < l.length), i + 1 < j + 1 → follows l[i] l[i+1] = true) := fun hf i h h2 => by
        by_cases e : i = m
        · subst e; subst hm; exact hf
        · exact H.out.2 i h (by omega)
      have HE2 : Hid (follows l[m] l[j] = false → chain l = false) := fun hf => by
        subst hm
        by_cases hc : chain l = true
        · rw [(chain_iff l).1 hc m hlt] at hf; simp at hf
        · simpa using hc
      have HT : Hid (Touch (fun _ => False) w wr) := H.out.1
      have HF := fun W => follows_any l[m] l[j] W
      generalize l[m] = x at *
      generalize l[j] = y at *
      generalize follows x y = fb at *
      obtain ⟨xc, xf, xt, xn⟩ := x
      obtain ⟨yc, yf, yt, yn⟩ := y
      simp only at c0 c1 c2 c3 d0 d1 d2 d3
      have C1 := (HF wr).mono fun e w' (q : _ ∧ _) => (⟨q.1, by rw [q.2]; exact ((Touch.refl _ _).alloc _).alloc _⟩ : _ ∧ Touch (fun _ => False) wr w')
      have C2 := (HF wr.drew).mono fun e w' (q : _ ∧ _) => (⟨q.1, by rw [q.2]; exact ((Touch.refl _ _).drew.alloc _).alloc _⟩ : _ ∧ Touch (fun _ => False) wr w')
      have HK : Hid (∀ W, Touch (fun _ => False) wr W → (W.cell? ⟨b, o + m * 4, none⟩ = some (u64 xc) ∧ W.cell? ⟨b, o + m * 4 + 1, none⟩ = some (u64 xf) ∧ W.cell? ⟨b, o + m * 4 + 2, none⟩ = some (u64 xt) ∧ W.cell? ⟨b, o + m * 4 + 3, none⟩ = some (u64 xn)) ∧ W.cell? ⟨b, o + j * 4, none⟩ = some (u64 yc) ∧ W.cell? ⟨b, o + j * 4 + 1, none⟩ = some (u64 yf) ∧ W.cell? ⟨b, o + j * 4 + 2, none⟩ = some (u64 yt) ∧ W.cell? ⟨b, o + j * 4 + 3, none⟩ = some (u64 yn)) := fun W t => by
        have q : ∀ i u, wr.cell? ⟨b, i, none⟩ = some u → W.cell? ⟨b, i, none⟩ = some u := fun i u hu => by rw [World.cell?_of_block (t.block _ (World.block_lt_of_cell? _ _ hu) id)]; exact hu
        exact ⟨⟨q _ _ c0, q _ _ c1, q _ _ c2, q _ _ c3⟩, q _ _ d0, q _ _ d1, q _ _ d2, q _ _ d3⟩
      have S0 := HK.out wr (Touch.refl _ _)
      have S1 := HK.out wr.drew (Touch.refl _ _).drew
      have i1 : IntKind.i64.wrap ((j : Int) - 1) = (m : Int) := by simp [IntKind.wrap, IntKind.bits, IntKind.signed]; omega
      have i2 : (0 : Int) ≤ (m : Int) := by omega
      have i3 : (m : Int) < (l.length : Int) := by omega
      have i4 : (0 : Int) ≤ (j : Int) := by omega
      have i5 : (j : Int) < (l.length : Int) := by omega
      have HM : Hid (j = m + 1) := hm
      clear hm
      clear hrow e hne H HF c0 c1 c2 c3 d0 d1 d2 d3
      go_upto_region 4 with fail
      go_cut [20] (fun t wz => t = .bool (!fb) ∧ Hid (Touch (fun _ => False) wr wz))
      case first =>
        go_wp2_with fail
        go_region_held3 (fun W => (W.cell? ⟨b, o + m * 4, none⟩ = some (u64 xc) ∧ W.cell? ⟨b, o + m * 4 + 1, none⟩ = some (u64 xf) ∧ W.cell? ⟨b, o + m * 4 + 2, none⟩ = some (u64 xt) ∧ W.cell? ⟨b, o + m * 4 + 3, none⟩ = some (u64 xn)) ∧ W.cell? ⟨b, o + j * 4, none⟩ = some (u64 yc) ∧ W.cell? ⟨b, o + j * 4 + 1, none⟩ = some (u64 yf) ∧ W.cell? ⟨b, o + j * 4 + 2, none⟩ = some (u64 yt) ∧ W.cell? ⟨b, o + j * 4 + 3, none⟩ = some (u64 yn)) (first | assumption)
          (first | (go_at_call 56; first | ((with_reducible refine C1.mono ?_); rintro e w3 ⟨rfl, t3⟩; have S3 := HK.out w3 t3; have T3 : Hid (Touch (fun _ => False) wr w3) := t3; clear t3) | ((with_reducible refine C2.mono ?_); rintro e w3 ⟨rfl, t3⟩; have S3 := HK.out w3 t3; have T3 : Hid (Touch (fun _ => False) wr w3) := t3; clear t3)))
        all_goals (try go_wp2_with fail)
        all_goals go_meet
        all_goals (case rel => exact ⟨rfl, T3.out⟩)
      case rest =>
        obtain ⟨rfl, hcT⟩ := hcut
        clear S0 S1 C1 C2 HK
        cases fb with
        | true =>
          have HE3 : Hid (∀ i (h : i + 1 < l.length), i + 1 < j + 1 → follows l[i] l[i+1] = true) := HE.out rfl
          clear HE HE2
          go_wp2_with fail
          go_roundg (l.length - (j + 1))
          case measure => omega
          case rel => exact ⟨j + 1, by omega, rfl, by go_num, .inl (by omega), ⟨HT.out.trans hcT.out, HE3.out⟩⟩
        | false =>
          have HE3 : Hid (chain l = false) := HE2.out rfl
          clear HE HE2
          go_wp2_with fail
          go_ret
          exact ⟨by rw [HE3.out]; rfl, HT.out.trans hcT.out⟩
    · have HC : Hid (chain l = true) := (chain_iff l).2 fun i h => H.out.2 i h (by omega)
      have HT : Hid (Touch (fun _ => False) w wr) := H.out.1
      clear H
      go_wp2_with fail
      go_ret
      exact ⟨by rw [HC.out]; rfl, HT.out⟩
end Go.Proofs.Ytccgiabihagjoaa
