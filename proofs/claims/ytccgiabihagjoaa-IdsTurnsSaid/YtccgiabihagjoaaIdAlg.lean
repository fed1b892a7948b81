/- Sets as what they tell, and how many ids they have. -/
import Derived.Test.YtccgiabihagjoaaKnown6
namespace Go.Proofs.Ytccgiabihagjoaa
open Go.RowKit Go.Maps
set_option linter.unusedVariables false
set_option linter.unusedSimpArgs false

def sumN : Nat → (Nat → Int) → Int
  | 0, _ => 0
  | n + 1, f => sumN n f + f n
theorem sumN_congr {f g : Nat → Int} : ∀ n, (∀ i, i < n → f i = g i) → sumN n f = sumN n g
  | 0, _ => rfl
  | n + 1, h => by rw [sumN, sumN, sumN_congr n fun i hi => h i (by omega), h n (by omega)]
theorem sumN_add (f g : Nat → Int) : ∀ n, sumN n (fun i => f i + g i) = sumN n f + sumN n g
  | 0 => rfl
  | n + 1 => by rw [sumN, sumN, sumN, sumN_add f g n]; omega
theorem sumN_zero : ∀ n, sumN n (fun _ => 0) = 0
  | 0 => rfl
  | n + 1 => by rw [sumN, sumN_zero n]; rfl
theorem sumN_span (a b : Int) (h0 : 0 ≤ a) (h1 : a ≤ b) : ∀ n : Nat, sumN n (fun i => if a ≤ (i : Int) ∧ (i : Int) < b then 1 else 0) = max 0 (min (n : Int) b - a)
  | 0 => by rw [sumN]; omega
  | n + 1 => by
    rw [sumN, sumN_span a b h0 h1 n]
    split <;> omega
theorem sumN_at (a : Int) (x : Int) (h0 : 0 ≤ a) : ∀ n : Nat, sumN n (fun i => if (i : Int) = a then x else 0) = if a < (n : Int) then x else 0
  | 0 => by rw [sumN, if_neg (by omega)]
  | n + 1 => by
    rw [sumN, sumN_at a x h0 n]
    split <;> split <;> split <;> omega
/-- How many ids a function of 0 and 1 tells. -/
def grid (n : Nat) (F : Int → Int → Int) : Int := sumN n fun c => sumN n fun k => F c k
theorem grid_add (n : Nat) (F G : Int → Int → Int) : grid n (fun c k => F c k + G c k) = grid n F + grid n G := by
  unfold grid
  rw [← sumN_add]
  exact sumN_congr n fun i _ => sumN_add _ _ n
theorem grid_congr (n : Nat) {F G : Int → Int → Int} (h : ∀ c k, F c k = G c k) : grid n F = grid n G := by
  unfold grid
  exact sumN_congr n fun i _ => sumN_congr n fun j _ => h _ _
theorem grid_one (n : Nat) (hn : (9007199254740993 : Int) ≤ n) {r : Rg} (h : r.ok = true) : grid n (fun c k => if r.c = c ∧ r.f ≤ k ∧ k < r.t then 1 else 0) = r.t - r.f := by
  have ho := Rg.ok_iff.1 h
  unfold grid
  have e : sumN n (fun c => sumN n fun k => if r.c = (c : Int) ∧ r.f ≤ (k : Int) ∧ (k : Int) < r.t then 1 else 0) = sumN n fun c => if (c : Int) = r.c then r.t - r.f else 0 := by
    refine sumN_congr n fun i _ => ?_
    by_cases hi : (i : Int) = r.c
    · rw [if_pos hi]
      have := sumN_span r.f r.t (by omega) (by omega) n
      rw [show r.t - r.f = max 0 (min (n : Int) r.t - r.f) from by omega, ← this]
      exact sumN_congr n fun j _ => by simp [hi]
    · rw [if_neg hi]
      exact (sumN_congr n fun j _ => by rw [if_neg (fun q => hi q.1.symm)]).trans (sumN_zero n)
  rw [e, sumN_at _ _ (by omega), if_pos (by omega)]
theorem grid_cnt (n : Nat) (hn : (9007199254740993 : Int) ≤ n) (l : List Rg) (h : Canon (tns l)) : grid n (val (tns l)) = cntR l := by
  induction l with
  | nil =>
    unfold grid
    rw [cntR, ← sumN_zero n]
    exact sumN_congr n fun i _ => by rw [← sumN_zero n]; rfl
  | cons r l ih =>
    have hok : r.ok = true := by have := h.ok; rwa [Rg.tn_ok] at this
    rw [cntR, ← ih h.tail, ← grid_one n hn hok, ← grid_add]
    refine grid_congr n fun c k => ?_
    rw [tns_cons, val_cons]
    show (if r.c = c ∧ r.f ≤ k ∧ k < r.t then 1 else _) = _
    split
    · rename_i g
      have : val (tns l) c k = 0 := by
        have h2 : Canon (r.tn :: tns l) := h
        exact h2.tail_zero (Tn.has_iff.2 g)
      omega
    · omega
/-- How many. -/
def many (F : Int → Int → Int) : Int := grid 9007199254740993 F
theorem many_cnt {l : List Rg} {F : Int → Int → Int} (h : Form (tns l) F) : cntR l = many F := by
  unfold many
  generalize hn : (9007199254740993 : Nat) = n
  have hn2 : (9007199254740993 : Int) ≤ n := by omega
  rw [← grid_cnt n hn2 l h.1]
  exact grid_congr n h.2
theorem many_add {F G H : Int → Int → Int} (h : ∀ c k, H c k = F c k + G c k) : many H = many F + many G := by
  unfold many
  generalize (9007199254740993 : Nat) = n
  rw [← grid_add]; exact grid_congr n h

/-- A slice that tells F. -/
def Lst (W : World) (v : Value) (F : Int → Int → Int) (N : Nat) : Prop := ∃ l, SlR W v l ∧ (∀ c k, turnOf (tns l) c k = F c k) ∧ l.length ≤ N
/-- A slice in its form that tells F. -/
def Cst (W : World) (v : Value) (F : Int → Int → Int) (N : Nat) : Prop := ∃ l, SlR W v l ∧ Form (tns l) F ∧ l.length ≤ N
theorem Cst.lst {W : World} {v : Value} {F : Int → Int → Int} {N : Nat} (h : Cst W v F N) : Lst W v F N := by
  obtain ⟨l, h1, h2, h3⟩ := h
  exact ⟨l, h1, fun c k => by rw [h2.1.turnOf, h2.2], h3⟩
theorem Cst.touch {W W' : World} {v : Value} {F : Int → Int → Int} {N : Nat} (h : Cst W v F N) (t : Touch (fun _ => False) W W') : Cst W' v F N := by
  obtain ⟨l, h1, h2, h3⟩ := h
  exact ⟨l, h1.touch t, h2, h3⟩
theorem Lst.touch {W W' : World} {v : Value} {F : Int → Int → Int} {N : Nat} (h : Lst W v F N) (t : Touch (fun _ => False) W W') : Lst W' v F N := by
  obtain ⟨l, h1, h2, h3⟩ := h
  exact ⟨l, h1.touch t, h2, h3⟩
theorem Cst.shape {W : World} {v : Value} {F : Int → Int → Int} {N : Nat} (h : Cst W v F N) : ∃ ao n cap, v = .slice ao n cap := by
  obtain ⟨l, ⟨ao, cap, e, _⟩, _⟩ := h
  exact ⟨ao, _, cap, e⟩
theorem Cst.zero {W : World} {ao : Option Addr} {n cap : Nat} {F : Int → Int → Int} {N : Nat} (h : Cst W (.slice ao n cap) F N) (hF : ∀ c k, F c k = 0) : n = 0 := by
  obtain ⟨l, ⟨ao', cap', e, _⟩, h2, _⟩ := h
  have : l = [] := by
    cases l with
    | nil => rfl
    | cons x l =>
      have := h2.1.told (x := x.tn) List.mem_cons_self
      rw [h2.2, hF] at this
      cases this
  subst this
  simp only [Value.slice.injEq] at e
  exact e.2.1
section
variable {W : World} {va vb : Value} {F G : Int → Int → Int} {N M : Nat}
theorem clean_set (ha : Lst W va F N) (hN : N ≤ 33554432) : Calls Try.prog 28 #[va] W fun e w' => ∃ v', e = .returned v' ∧ Cst w' v' F N ∧ Touch (fun _ => False) W w' := by
  obtain ⟨a, a1, a2, a3⟩ := ha
  refine (cleanI_any a va W a1 (by omega)).mono ?_
  rintro e w' ⟨v', out, rfl, hN, hF, hl⟩
  exact ⟨v', rfl, ⟨out, hN.sl, hF.of a2, by omega⟩, hN.touch⟩
theorem same_set (ha : Cst W va F N) (hb : Cst W vb G M) (h : ∀ c k, F c k = G c k) (hN : N ≤ 33554432) : Calls Try.prog 12 #[va, vb] W fun e w' => e = .returned (.bool true) ∧ Touch (fun _ => False) W w' := by
  obtain ⟨a, a1, a2, a3⟩ := ha
  obtain ⟨b, b1, b2, b3⟩ := hb
  obtain rfl : a = b := tns_inj (a2.eq b2 h)
  exact rangesEq_any a va vb W a1 b1 (by omega)
end
end Go.Proofs.Ytccgiabihagjoaa
