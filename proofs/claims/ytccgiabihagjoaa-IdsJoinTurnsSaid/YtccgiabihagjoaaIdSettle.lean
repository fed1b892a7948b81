/- The contract of ids.settle. -/
import Derived.Test.YtccgiabihagjoaaIdTn
namespace Go.Proofs.Ytccgiabihagjoaa
open Go.RowKit Go.Maps
set_option linter.unusedVariables false
set_option linter.unusedSimpArgs false
set_option maxRecDepth 100000

def SetP (l : List Tn) (w : World) (e : Ending) (w' : World) : Prop := ∃ v' out, e = .returned v' ∧ SlT w' v' out ∧ Form out (turnOf l) ∧ (out.length + 1 ≤ 2 * (l.length * l.length) ∨ out.length = 0) ∧ Touch (fun _ => False) w w'
theorem half_bound (h k a b o : Nat) (h1 : 1 ≤ h) (hk : k = h ∨ k = h + 1) (ha : a + 1 ≤ 2 * (h * h) ∨ a = 0) (hb : b + 1 ≤ 2 * (k * k) ∨ b = 0) (ho : o ≤ 2 * (a + b) + 1) : o + 1 ≤ 2 * ((h + k) * (h + k)) := by
  have q1 := Nat.le_mul_self h
  rcases hk with rfl | rfl
  · have e : (k + k) * (k + k) = 4 * (k * k) := by rw [Nat.mul_add, Nat.add_mul]; omega
    rw [e]; omega
  · have e1 : (h + 1) * (h + 1) = h * h + 2 * h + 1 := by rw [Nat.mul_add, Nat.add_mul]; omega
    have e : (h + (h + 1)) * (h + (h + 1)) = 4 * (h * h) + 4 * h + 1 := by
      rw [Nat.mul_add, Nat.mul_add, Nat.add_mul, Nat.add_mul]; omega
    rw [e1] at hb
    rw [e]; omega
theorem small_bound (h a : Nat) (hh : h ≤ 8000) (ha : a + 1 ≤ 2 * (h * h) ∨ a = 0) : a ≤ 134217728 := by
  have := Nat.mul_le_mul hh hh
  omega
theorem chain_long {l : List Tn} (h : chain l = false) : 2 ≤ l.length := by
  match l, h with
  | [], h => simp [chain] at h
  | [_], h => simp [chain] at h
  | _ :: _ :: _, _ => simp
theorem chain_form {l : List Tn} (h : chain l = true) (ho : ∀ x ∈ l, x.ok = true) : Form l (turnOf l) :=
  have c := chain_canon h ho
  ⟨c, fun a k => (c.turnOf a k).symm⟩

set_option maxHeartbeats 1600000 in
theorem settle_any (n : Nat) : ∀ (l : List Tn) (v : Value) (w : World), l.length = n → SlT w v l → (∀ x ∈ l, x.ok = true) → (l.length ≤ 8000 ∨ Canon l) → l.length ≤ 1073741824 → Calls Try.prog 20 #[v] w (SetP l w) := by
  induction n using Nat.strongRecOn with
  | ind n ih =>
    intro l v w hn hs hok hsz hll
    have HD := settled_any l v w hs hll
    cases hc : chain l with
    | true =>
      rw [hc] at HD
      have HQ : Hid (∀ w', Touch (fun _ => False) w w' → SetP l w (.returned v) w') := fun w' t => by
        refine ⟨v, l, rfl, hs.touch t, chain_form hc hok, ?_, t⟩
        have := Nat.le_mul_self l.length
        omega
      obtain ⟨ao, cap, rfl, _⟩ := hs.shape
      clear hs hok hsz ih hn hc
      go_enter Try.func20, Try.ntmps20
      go_wp2_with fail
      refine HD.mono ?_
      rintro e w1 ⟨rfl, t1⟩
      have HT : Hid (Touch (fun _ => False) w w1) := t1
      clear t1 HD
      go_wp2_with fail
      refine bodyPost_ret (v := .slice ao l.length cap) (by simp [results, Try.results20, go_sem]) rfl ?_
      exact HQ.out _ HT.out
    | false =>
      rw [hc] at HD
      have h2 := chain_long hc
      have h8 : l.length ≤ 8000 := by
        rcases hsz with h | h
        · exact h
        · rw [h.chain] at hc; cases hc
      obtain ⟨ao, cap, rfl, _, hcap, hcm⟩ := hs.shape
      obtain ⟨h, hh⟩ : ∃ h, h = l.length / 2 := ⟨_, rfl⟩
      have hlh : h ≤ l.length := by omega
      have h1 : 1 ≤ h := by omega
      have s1 := hs.upto h hlh
      have s2 := hs.from h hlh
      have sl1 := fun W => sliceT_to ao l.length cap h (by omega) W
      have sl2 := fun W => sliceT_from ao l.length cap h hlh W
      have hq : (l.length : Int).tdiv 2 = (h : Int) := by
        rw [hh]
        exact (Int.ofNat_tdiv l.length 2).symm
      have el1 : (l.take h).length = h := by rw [List.length_take]; omega
      have el2 : (l.drop h).length = l.length - h := List.length_drop
      have I1 : Hid (∀ W, Touch (fun _ => False) w W → Calls Try.prog 20 #[.slice ao h cap] W (SetP (l.take h) W)) := fun W t =>
        ih h (by omega) (l.take h) _ W el1 (s1.touch t) (fun x hx => hok x (List.mem_of_mem_take hx)) (.inl (by omega)) (by omega)
      have I2 : Hid (∀ W, Touch (fun _ => False) w W → Calls Try.prog 20 #[.slice (if cap = h then ao else ao.map (·.add (h * 4))) (l.length - h) (cap - h)] W (SetP (l.drop h) W)) := fun W t =>
        ih (l.length - h) (by omega) (l.drop h) _ W el2 (s2.touch t) (fun x hx => hok x (List.mem_of_mem_drop hx)) (.inl (by omega)) (by omega)
      generalize (if cap = h then ao else ao.map (·.add (h * 4))) = ao2 at *
      generalize cap - h = cap2 at *
      obtain ⟨k, hk⟩ : ∃ k, k = l.length - h := ⟨_, rfl⟩
      rw [← hk] at I2 sl2 s2 el2
      have I3 : Hid (∀ W W1 W2 v1 v2, SetP (l.take h) W (.returned v1) W1 → SetP (l.drop h) W1 (.returned v2) W2 → Touch (fun _ => False) w W → ∀ W3, Touch (fun _ => False) W2 W3 → Calls Try.prog 33 #[v1, v2, .func (.func 34) #[] #[]] W3 (SetP l w)) := by
        rintro W W1 W2 v1 v2 ⟨_, A, e1, a1, f1, b1, t1⟩ ⟨_, B, e2, a2, f2, b2, t2⟩ t W3 t3
        cases e1; cases e2
        rw [el1] at b1
        rw [el2] at b2
        refine (blend_any W3 A B v1 v2 34 max pick_max (enters_of Try.func34 (by kernel_rfl) rfl) (fun x y W => greater_any x y W) ((a1.touch t2).touch t3) (a2.touch t3) f1.1 f2.1 (small_bound h _ (by omega) b1) (small_bound k _ (by omega) b2)).mono ?_
        rintro e w' ⟨v', out, rfl, hN, hF, hol⟩
        refine ⟨v', out, rfl, hN.sl, hF.of fun c k => ?_, .inl ?_, (((t.trans t1).trans t2).trans t3).trans hN.touch⟩
        · rw [f1.2, f2.2, ← turnOf_append, List.take_append_drop]
        · have := half_bound h k _ _ _ h1 (by omega) b1 b2 hol
          have e : h + k = l.length := by omega
          rwa [e] at this
      have HSh : Hid (∀ l' W e W', SetP l' W e W' → ∃ ao n cap, e = .returned (.slice ao n cap) ∧ SetP l' W (.returned (.slice ao n cap)) W' ∧ Touch (fun _ => False) W W') := fun l' W e W' q => by
        obtain ⟨v', out, rfl, q1, q2, q3, q4⟩ := q
        obtain ⟨ao, cap, rfl, _⟩ := q1.shape
        exact ⟨_, _, _, rfl, ⟨_, _, rfl, q1, q2, q3, q4⟩, q4⟩
      clear s1 s2 hs hok hsz ih el1 el2
      have HN : Hid (h = l.length / 2 ∧ k = l.length - h ∧ l.length = n) := ⟨hh, hk, hn⟩
      clear hh hk hn hc
      go_enter Try.func20, Try.ntmps20
      go_wp2_with fail
      refine HD.mono ?_
      rintro e w1 ⟨rfl, t1⟩
      have HT : Hid (Touch (fun _ => False) w w1) := t1
      clear t1 HD
      go_wp2_with fail
      go_region_held3 (fun _ => True) (trivial)
        (first
          | (go_at_call 20; first
              | ((with_reducible refine (I1.out w1 HT.out).mono ?_); rintro e w3 q3; obtain ⟨x1, x2, x3, rfl, q3, t3⟩ := HSh.out _ _ _ _ q3; have Q3 : Hid (_ ∧ _) := ⟨q3, t3⟩; clear q3 t3)
              | ((with_reducible refine (I1.out w1.drew HT.out.drew).mono ?_); rintro e w3 q3; obtain ⟨x1, x2, x3, rfl, q3, t3⟩ := HSh.out _ _ _ _ q3; have Q3 : Hid (_ ∧ _) := ⟨q3, t3⟩; clear q3 t3)
              | ((with_reducible refine (I2.out w3 (HT.out.trans Q3.out.2)).mono ?_); rintro e w4 q4; obtain ⟨y1, y2, y3, rfl, q4, t4⟩ := HSh.out _ _ _ _ q4; have Q4 : Hid (_ ∧ _) := ⟨q4, t4⟩; clear q4 t4)
              | ((with_reducible refine (I2.out w3 (HT.out.drew.trans Q3.out.2)).mono ?_); rintro e w4 q4; obtain ⟨y1, y2, y3, rfl, q4, t4⟩ := HSh.out _ _ _ _ q4; have Q4 : Hid (_ ∧ _) := ⟨q4, t4⟩; clear q4 t4))
          | (go_at_call 33; (with_reducible refine (I3.out _ _ _ _ _ Q3.out.1 Q4.out.1 (by first | exact HT.out | exact HT.out.drew) _ (Touch.refl _ _)).mono ?_); rintro e w5 q5; obtain ⟨z1, z2, z3, rfl, q5, t5⟩ := HSh.out _ _ _ _ q5; have Q5 : Hid _ := q5; clear q5 t5))
      all_goals (try go_wp2_with fail)
      all_goals (go_ret; exact Q5.out)
end Go.Proofs.Ytccgiabihagjoaa
