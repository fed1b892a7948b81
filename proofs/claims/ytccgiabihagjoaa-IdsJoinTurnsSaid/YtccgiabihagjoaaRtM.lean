/- Edges of turns: what is told between two that are next to one another; pieces laid client by client. -/
import Derived.Test.YtccgiabihagjoaaAboveM
import Derived.Test.YtccgiabihagjoaaRtE
import Derived.Test.YtccgiabihagjoaaIdBlend
namespace Go.Proofs.Ytccgiabihagjoaa
set_option linter.unusedVariables false
set_option linter.unusedSimpArgs false

/-- What is above in a. -/
def fAb (a b : List Tn) (c k : Int) : Int := ifAb (turnOf a c k) (turnOf b c k)
theorem fAb_zero {a b : List Tn} {c k : Int} (h : turnOf a c k = 0) : fAb a b c k = 0 := by
  unfold fAb ifAb
  have := (turnOf_pos b c k).1
  rw [h]
  split <;> omega
theorem fAb_low (a b : List Tn) (c : Int) {k : Int} (h : k < 1) : fAb a b c k = 0 :=
  fAb_zero (turnOf_none fun x hx ho hc => by have := Tn.ok_iff.1 ho; omega)
theorem fAb_other {a b : List Tn} {cs : List Int} (hc : CliU a cs) {d : Int} (hd : d ∉ cs) (k : Int) : fAb a b d k = 0 :=
  fAb_zero (turnOf_none fun x hx ho he => absurd ((hc.mem d).2 ⟨x, hx, ho, he⟩) hd)
theorem Upto.skip {F : Int → Int → Int} {out : List Tn} {c p q : Int} (h : Upto F out c p) (hpq : p ≤ q) (hz : ∀ k, p ≤ k → k < q → F c k = 0) : Upto F out c q := by
  refine ⟨h.canon, fun y hy => by have := h.bef y hy; omega, fun d k => ?_⟩
  rw [h.vals]
  by_cases g : d < c ∨ (d = c ∧ k < p)
  · rw [if_pos g, if_pos (by omega)]
  · rw [if_neg g]
    split
    · rename_i g2
      have : d = c := by omega
      subst this
      rw [hz k (by omega) (by omega)]
    · rfl
/-- Where the outer loop stands: all clients ahead of the i-th are laid. -/
def AtC (F : Int → Int → Int) (cs : List Int) (i : Nat) (out : List Tn) : Prop := (∀ h : i < cs.length, Upto F out cs[i] 0) ∧ (i = cs.length → Form out F)
theorem AtC.start {a b : List Tn} {cs : List Int} (hc : CliU a cs) : AtC (fAb a b) cs 0 [] := by
  refine ⟨fun h => Upto.start (fun d k hd => fAb_other hc (fun hm => ?_) k) (fun k hk => fAb_low a b _ (by omega)), fun h => ⟨trivial, fun c k => ?_⟩⟩
  · obtain ⟨j, hj, rfl⟩ := List.mem_iff_getElem.1 hm
    rcases Nat.eq_zero_or_pos j with e | e
    · subst e; omega
    · have := List.pairwise_iff_getElem.1 hc.asc 0 j h hj e
      omega
  · have e : cs = [] := List.length_eq_zero_iff.1 h.symm
    subst e
    exact (fAb_other hc (fun hm => nomatch hm) k).symm
theorem AtC.next {a b : List Tn} {cs : List Int} (hc : CliU a cs) {i : Nat} (hi : i < cs.length) {out : List Tn} {p : Int} (h : Upto (fAb a b) out cs[i] p) (he : ∀ k, p ≤ k → fAb a b cs[i] k = 0) : AtC (fAb a b) cs (i + 1) out := by
  refine ⟨fun h2 => h.next he (List.pairwise_iff_getElem.1 hc.asc i (i + 1) hi h2 (by omega)) (fun d k h3 h4 => fAb_other hc (fun hm => ?_) k) (fun k hk => fAb_low a b _ (by omega)), fun h2 => h.done he (fun d k h3 => fAb_other hc (fun hm => ?_) k)⟩
  · obtain ⟨j, hj, rfl⟩ := List.mem_iff_getElem.1 hm
    rcases Nat.lt_trichotomy j i with e | e | e
    · have := List.pairwise_iff_getElem.1 hc.asc j i hj hi e; omega
    · subst e; omega
    · rcases Nat.lt_or_ge (i + 1) j with e2 | e2
      · have := List.pairwise_iff_getElem.1 hc.asc (i + 1) j h2 hj e2; omega
      · obtain rfl : j = i + 1 := by omega
        omega
  · obtain ⟨j, hj, rfl⟩ := List.mem_iff_getElem.1 hm
    rcases Nat.lt_or_ge j i with e | e
    · have := List.pairwise_iff_getElem.1 hc.asc j i hj hi e; omega
    · obtain rfl : j = i := by omega
      omega
theorem asc_le {es : List Int} (h : es.Pairwise (fun a b => a < b)) {j k : Nat} (hj : j < es.length) (hk : k < es.length) (hjk : j ≤ k) : es[j] ≤ es[k] := by
  rcases Nat.lt_or_ge j k with g | g
  · exact Int.le_of_lt (List.pairwise_iff_getElem.1 h j k hj hk g)
  · obtain rfl : j = k := by omega
    exact Int.le_refl _
/-- Edges: the facts that the inner loop stands on. -/
structure EdgF (a b : List Tn) (c : Int) (es : List Int) : Prop where
  two : 2 ≤ es.length
  low : ∀ h : 0 < es.length, ∀ k, k < es[0] → fAb a b c k = 0
  high : ∀ h : es.length - 1 < es.length, ∀ k, es[es.length - 1] ≤ k → fAb a b c k = 0
  flat : ∀ k (h : k + 1 < es.length), ∀ j, es[k] ≤ j → j < es[k + 1] → fAb a b c j = fAb a b c es[k]
  ok : ∀ k (h : k + 1 < es.length), fAb a b c es[k] ≠ 0 → (⟨c, es[k], es[k + 1], fAb a b c es[k]⟩ : Tn).ok = true
theorem EdgF.of {a b : List Tn} {cs es : List Int} (hc : CliU a cs) {c : Int} (hm : c ∈ cs) (he : EdgU (a ++ b) c es) : EdgF a b c es := by
  obtain ⟨t, ht, ho, hcc⟩ := (hc.mem c).1 hm
  have hok := Tn.ok_iff.1 ho
  have hin : ∀ x ∈ a ++ b, x.ok = true → x.c = c → x.f ∈ es ∧ x.t ∈ es := fun x hx h1 h2 => ⟨(he.mem _).2 ⟨x, hx, h1, h2, .inl rfl⟩, (he.mem _).2 ⟨x, hx, h1, h2, .inr rfl⟩⟩
  have ha : ∀ x ∈ a, x ∈ a ++ b := fun x hx => List.mem_append_left _ hx
  have hb : ∀ x ∈ b, x ∈ a ++ b := fun x hx => List.mem_append_right _ hx
  have hlow : ∀ (h : 0 < es.length) y, y ∈ es → es[0] ≤ y := fun h y hy => by
    obtain ⟨j, hj, rfl⟩ := List.mem_iff_getElem.1 hy
    exact asc_le he.asc h hj (Nat.zero_le _)
  have hhigh : ∀ (h : es.length - 1 < es.length) y, y ∈ es → y ≤ es[es.length - 1] := fun h y hy => by
    obtain ⟨j, hj, rfl⟩ := List.mem_iff_getElem.1 hy
    exact asc_le he.asc hj h (by omega)
  have hgap : ∀ k (h : k + 1 < es.length) y, y ∈ es → y ≤ es[k] ∨ es[k + 1] ≤ y := fun k h y hy => by
    obtain ⟨j, hj, rfl⟩ := List.mem_iff_getElem.1 hy
    rcases Nat.lt_or_ge k j with g | g
    · exact .inr (asc_le he.asc h hj g)
    · exact .inl (asc_le he.asc hj (by omega) g)
  have hnum : ∀ y ∈ es, 1 ≤ y ∧ y ≤ 9007199254740992 := fun y hy => by
    obtain ⟨x, hx, h1, h2, h3⟩ := (he.mem y).1 hy
    have := Tn.ok_iff.1 h1
    omega
  refine ⟨?_, fun h k hk => ?_, fun h k hk => ?_, fun k h j h1 h2 => ?_, fun k h hn => ?_⟩
  · obtain ⟨f1, f2⟩ := hin t (ha t ht) ho hcc
    obtain ⟨j1, hj1, e1⟩ := List.mem_iff_getElem.1 f1
    obtain ⟨j2, hj2, e2⟩ := List.mem_iff_getElem.1 f2
    have : j1 ≠ j2 := fun e => by subst e; omega
    omega
  · exact fAb_zero (turnOf_none fun x hx h1 h2 => by
      have := hlow h _ (hin x (ha x hx) h1 h2).1
      omega)
  · exact fAb_zero (turnOf_none fun x hx h1 h2 => by
      have := hhigh h _ (hin x (ha x hx) h1 h2).2
      omega)
  · have fa : Flat a c es[k] es[k + 1] := fun x hx g1 g2 => ⟨hgap k h _ (hin x (ha x hx) g1 g2).1, hgap k h _ (hin x (ha x hx) g1 g2).2⟩
    have fb : Flat b c es[k] es[k + 1] := fun x hx g1 g2 => ⟨hgap k h _ (hin x (hb x hx) g1 g2).1, hgap k h _ (hin x (hb x hx) g1 g2).2⟩
    unfold fAb
    rw [fa.turnOf h1 h2, fb.turnOf h1 h2]
  · have n1 := hnum _ (List.getElem_mem (by omega : k < es.length))
    have n2 := hnum _ (List.getElem_mem h)
    have n3 := List.pairwise_iff_getElem.1 he.asc k (k + 1) (by omega) h (by omega)
    have n4 : 0 ≤ fAb a b c es[k] ∧ fAb a b c es[k] ≤ 9007199254740991 := by
      have g1 := turnOf_pos a c es[k]
      unfold fAb ifAb
      split <;> omega
    exact Tn.ok_iff.2 ⟨by simp only; omega, by simp only; omega, by simp only; omega⟩
theorem Upto.first {a b : List Tn} {c : Int} {es : List Int} {out : List Tn} (h : Upto (fAb a b) out c 0) (he : EdgF a b c es) (h0 : 0 < es.length) (hp : 0 ≤ es[0]) : Upto (fAb a b) out c es[0] :=
  h.skip hp fun k _ hk => he.low h0 k hk
theorem Upto.edge {a b : List Tn} {c : Int} {es : List Int} {out : List Tn} {k : Nat} (hk : k + 1 < es.length) (h : Upto (fAb a b) out c es[k]) (he : EdgF a b c es) (hlt : es[k] < es[k + 1]) : Upto (fAb a b) (lay out ⟨c, es[k], es[k + 1], fAb a b c es[k]⟩) c es[k + 1] :=
  h.step hlt (fun j h1 h2 => he.flat k hk j h1 h2) (he.ok k hk)
end Go.Proofs.Ytccgiabihagjoaa
