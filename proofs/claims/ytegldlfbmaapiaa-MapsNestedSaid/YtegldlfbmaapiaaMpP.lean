/- Package maps: what a view is, as a function; how entries lie; the sorted keys of a map. -/
import Derived.Test.YtegldlfbmaapiaaMpO
import Derived.Test.YtegldlfbmaapiaaRowQ
import Derived.Test.YtegldlfbmaapiaaPart15
namespace Go.Proofs.Ytegldlfbmaapiaa
open Go.RowKit Go.Maps Go.Sort
set_option linter.unusedVariables false
set_option linter.unusedSimpArgs false
set_option maxRecDepth 100000

/-- An entry of a view. -/
inductive Et where
  | mk (ky : ByteArray) (v : V) (kids : List Et)
def Et.ky : Et → ByteArray | .mk k _ _ => k
def Et.v : Et → V | .mk _ v _ => v
def Et.kids : Et → List Et | .mk _ _ l => l
abbrev strK (k : Key) : ByteArray := ⟨k.toArray⟩
/-- A map's keys. -/
def keysS (s : MS) (c k : Int) : List Key := ((aget (kI c k) s.keys).getD []).map (·.1)
/-- An entry of a view, or none. -/
def entE (f : Int → Int → List Et) (o : O × Bool) (ky : Key) : Option Et := if o.2 = true then some (.mk (strK ky) o.1.v (if isMapB o.1 = true then f o.1.c o.1.k else [])) else none
/-- What is in a map, down to a depth. -/
def viewE (s : MS) : Nat → Int → Int → List Et
  | 0, _, _ => []
  | n + 1, c, k => (keysS s c k).filterMap fun ky => entE (viewE s n) (getS s c k (strK ky)) ky
theorem viewE_succ (s : MS) (n : Nat) (c k : Int) : viewE s (n + 1) c k = (keysS s c k).filterMap fun ky => entE (viewE s n) (getS s c k (strK ky)) ky := rfl
/-- Maps within maps end above that depth. -/
def Deep (s : MS) : Nat → Int → Int → Prop
  | 0, _, _ => False
  | n + 1, c, k => (keysS s c k).length ≤ 1000000 ∧ ∀ ky ∈ keysS s c k, ky.length ≤ 281474976710656 ∧ ((getS s c k (strK ky)).2 = true → isMapB (getS s c k (strK ky)).1 = true → U64 (getS s c k (strK ky)).1.c ∧ U64 (getS s c k (strK ky)).1.k ∧ Deep s n (getS s c k (strK ky)).1.c (getS s c k (strK ky)).1.k)
/-- Entries as they lie, against a view's. -/
def EtRow (P : Value → List Et → Prop) (raws : List Ew) (l : List Et) : Prop := raws.length = l.length ∧ ∀ i (h1 : i < raws.length) (h2 : i < l.length), raws[i].ky = l[i].ky ∧ (⟨raws[i].vk, raws[i].vn, raws[i].vf, raws[i].vs⟩ : V) = l[i].v ∧ P raws[i].ks.val l[i].kids
/-- A slice of entries whose cells lie in blocks of that sort. -/
def SlS (w : World) (S : Nat → Prop) (v : Value) (raws : List Ew) : Prop := ∃ ao cap, v = .slice ao raws.length cap ∧ (ao = none → cap = 0) ∧ raws.length ≤ cap ∧ cap ≤ 9223372036854775807 ∧ (raws = [] ∨ ∃ b o, ao = some ⟨b, o, none⟩ ∧ S b ∧ ∀ j u, (cellsQ raws)[j]? = some u → w.cell? ⟨b, o + j, none⟩ = some u)
theorem SlS.sl {w : World} {S : Nat → Prop} {v : Value} {raws : List Ew} (h : SlS w S v raws) : SlQ w v raws := by
  obtain ⟨ao, cap, e, h1, h2, h3, h4⟩ := h
  refine ⟨ao, cap, e, h1, h2, h3, ?_⟩
  rcases h4 with h4 | ⟨b, o, e2, _, hc⟩
  · exact .inl h4
  · exact .inr ⟨b, o, e2, hc⟩
theorem cellsQ_pos {raws : List Ew} (h : raws ≠ []) : ∃ u, (cellsQ raws)[0]? = some u := by
  cases raws with
  | nil => exact absurd rfl h
  | cons r l => exact ⟨_, rfl⟩
theorem SlS.touch {w w' : World} {S T : Nat → Prop} {v : Value} {raws : List Ew} (h : SlS w S v raws) (t : Touch T w w') (hs : ∀ k, S k → ¬ T k) : SlS w' S v raws := by
  obtain ⟨ao, cap, e, h1, h2, h3, h4⟩ := h
  refine ⟨ao, cap, e, h1, h2, h3, ?_⟩
  rcases h4 with h4 | ⟨b, o, e2, hS, hc⟩
  · exact .inl h4
  · refine .inr ⟨b, o, e2, hS, fun j u hu => ?_⟩
    have := hc j u hu
    rw [World.cell?_of_block (t.block _ (World.block_lt_of_cell? _ _ this) (hs b hS))]; exact this
theorem SlS.mono {w : World} {S T : Nat → Prop} {v : Value} {raws : List Ew} (h : SlS w S v raws) (hs : ∀ k, k < w.heap.size → S k → T k) : SlS w T v raws := by
  obtain ⟨ao, cap, e, h1, h2, h3, h4⟩ := h
  refine ⟨ao, cap, e, h1, h2, h3, ?_⟩
  by_cases hne : raws = []
  · exact .inl hne
  · rcases h4 with h4 | ⟨b, o, e2, hS, hc⟩
    · exact absurd h4 hne
    · obtain ⟨u, hu⟩ := cellsQ_pos hne
      exact .inr ⟨b, o, e2, hs b (World.block_lt_of_cell? _ _ (hc 0 u hu)) hS, hc⟩
theorem SlS.nil (w : World) (S : Nat → Prop) : SlS w S (.slice none 0 0) [] := ⟨none, 0, rfl, fun _ => rfl, Nat.le_refl _, by omega, .inl rfl⟩
theorem NewQ.slS {W w : World} {v : Value} {l : List Ew} (h : NewQ W w v l) : SlS w (fun k => W.heap.size ≤ k) v l := by
  rcases h.owns.2 with ⟨e, h0⟩ | ⟨g, cap, cur, e, hb, hg, q1, q2, q3, q4⟩
  · have : l = [] := List.length_eq_zero_iff.1 (by omega)
    subst this
    rw [e]; exact SlS.nil w _
  · refine ⟨_, cap, e, (fun h => by cases h), q1, q2, .inr ⟨g, 0, rfl, h.fresh g (by rw [e]; rfl), fun j u hu => ?_⟩⟩
    rw [← q4, List.getElem?_take] at hu
    split at hu
    · rw [cell_of_block hg, Nat.zero_add, ← Array.getElem?_toList]; exact hu
    · cases hu
def EtAt (w : World) (S : Nat → Prop) : Nat → Value → List Et → Prop
  | 0, v, l => l = [] ∧ SlS w S v []
  | h + 1, v, l => ∃ raws, SlS w S v raws ∧ EtRow (EtAt w S h) raws l
theorem EtRow.mono {P Q : Value → List Et → Prop} (hPQ : ∀ v l, P v l → Q v l) {raws : List Ew} {l : List Et} (h : EtRow P raws l) : EtRow Q raws l :=
  ⟨h.1, fun i h1 h2 => ⟨(h.2 i h1 h2).1, (h.2 i h1 h2).2.1, hPQ _ _ (h.2 i h1 h2).2.2⟩⟩
theorem EtAt.touch {w w' : World} {S T : Nat → Prop} (t : Touch T w w') (hs : ∀ k, S k → ¬ T k) : ∀ {h : Nat} {v : Value} {l : List Et}, EtAt w S h v l → EtAt w' S h v l
  | 0, v, l, h => ⟨h.1, h.2.touch t hs⟩
  | n + 1, v, l, ⟨raws, h1, h2⟩ => ⟨raws, h1.touch t hs, h2.mono fun v l q => EtAt.touch t hs q⟩
theorem EtAt.mono {w : World} {S T : Nat → Prop} (hs : ∀ k, k < w.heap.size → S k → T k) : ∀ {h : Nat} {v : Value} {l : List Et}, EtAt w S h v l → EtAt w T h v l
  | 0, v, l, h => ⟨h.1, h.2.mono hs⟩
  | n + 1, v, l, ⟨raws, h1, h2⟩ => ⟨raws, h1.mono hs, h2.mono fun v l q => EtAt.mono hs q⟩
theorem EtAt.nil (w : World) (S : Nat → Prop) : ∀ h : Nat, EtAt w S h (.slice none 0 0) []
  | 0 => ⟨rfl, SlS.nil w S⟩
  | h + 1 => ⟨[], SlS.nil w S, rfl, fun i h1 => by simp at h1⟩
theorem EtAt.shape {w : World} {S : Nat → Prop} {h : Nat} {v : Value} {l : List Et} (g : EtAt w S h v l) : ∃ ao cap, v = .slice ao l.length cap := by
  cases h with
  | zero =>
    obtain ⟨rfl, ao, cap, e, -⟩ := g
    exact ⟨ao, cap, e⟩
  | succ h =>
    obtain ⟨raws, ⟨ao, cap, e, -⟩, hl, -⟩ := g
    exact ⟨ao, cap, by rw [e, hl]⟩
theorem EtRow.nil (P : Value → List Et → Prop) : EtRow P [] [] := ⟨rfl, fun i h1 => by simp at h1⟩
theorem EtRow.snoc {P : Value → List Et → Prop} {raws : List Ew} {l : List Et} (h : EtRow P raws l) {r : Ew} {e : Et} (h1 : r.ky = e.ky) (h2 : (⟨r.vk, r.vn, r.vf, r.vs⟩ : V) = e.v) (h3 : P r.ks.val e.kids) : EtRow P (raws ++ [r]) (l ++ [e]) := by
  refine ⟨by simp [h.1], fun i a b => ?_⟩
  by_cases hi : i < raws.length
  · have hi2 : i < l.length := by rw [← h.1]; exact hi
    rw [List.getElem_append_left hi, List.getElem_append_left hi2]
    exact h.2 i hi hi2
  · have e1 : i = raws.length := by simp at a; omega
    subst e1
    have e2 : l[raws.length]? = none := by rw [List.getElem?_eq_none_iff]; have := h.1; omega
    rw [List.getElem_append_right (Nat.le_refl _), List.getElem_append_right (by have := h.1; omega)]
    simp only [Nat.sub_self, List.getElem_cons_zero, h.1]
    exact ⟨h1, h2, h3⟩
theorem filterMap_take {α β : Type} (f : α → Option β) (l : List α) (i : Nat) (h : i < l.length) : (l.take (i + 1)).filterMap f = (l.take i).filterMap f ++ (f l[i]).toList := by
  rw [List.take_succ_eq_append_getElem h, List.filterMap_append]
  cases e : f l[i] <;> simp [e]
/-- A slice of strings. -/
def StrsAt (w : World) (v : Value) (ks : List Key) : Prop := ∃ ao cap, v = .slice ao ks.length cap ∧ ∀ i (h : i < ks.length), ∃ b o, ao = some ⟨b, o, none⟩ ∧ ∀ W, Touch (fun _ => False) w W → W.cell? ⟨b, o + i, none⟩ = some (.string (strK ks[i]))
theorem strs_of {w : World} {B : Nat} {v : Value} {ks : List Key} (h : w.ownsRow B 9 1 v ks.length (ks.map encStr)) : StrsAt w v ks := by
  rcases h.2 with ⟨e, h0⟩ | ⟨g, cap, cur, e, hb, hg, q1, q2, q3, q4⟩
  · refine ⟨none, 0, by rw [e, h0], fun i hi => by omega⟩
  · refine ⟨_, cap, e, fun i hi => ⟨g, 0, rfl, fun W t => ?_⟩⟩
    have hcell : w.cell? ⟨g, 0 + i, none⟩ = some (.string (strK ks[i])) := by
      rw [Nat.zero_add, cell_of_block hg, ← Array.getElem?_toList]
      have : (ks.map encStr)[i]? = some (encStr ks[i]) := by simp [hi]
      rw [← q4, List.getElem?_take, if_pos (by omega)] at this
      exact this
    rw [World.cell?_of_block (t.block g (lt_of_heap hg) id)]
    exact hcell
theorem sorted_rising {α : Type} (es : List (Key × α)) (h : Rising es) {ss : List Key} (hs : ss.Perm (es.map (·.1))) : ss.mergeSort (fun x y => decide (x ≤ y)) = es.map (·.1) := by
  have e : ss.mergeSort leB = (es.map (·.1)).mergeSort leB := mergeSort_of_perm hs
  refine e.trans (List.mergeSort_of_pairwise ?_)
  refine List.pairwise_map.2 (h.imp fun {p q} hpq => ?_)
  simp only [leB, decide_eq_true_eq]
  exact List.le_of_lt (before_lt _ _ hpq)
theorem touch_belowM {w w' : World} (h : Below w.heap.size w w') : Touch (fun _ => False) w w' := ⟨h.os, h.tape, h.output, h.size, fun k hk _ => h.block k hk⟩
theorem sortedKeys_some {b n : Nat} {es : List (Key × Value)} (w : World) (hown : RanksAt w b n es) (hr : Rising es) (hn : es.length ≤ 1000000) :
    Calls Try.prog 52 #[.func (.func 75) #[] #[.pointer (some ⟨w.heap.size, 0, none⟩)]] (w.alloc (.cells #[.map (some b)] 66)) fun e w' => ∃ v, e = .returned v ∧ StrsAt w' v (es.map (·.1)) ∧ Touch (fun _ => False) w w' := by
  refine (callsIn_wide.1 (Try.slices_Sorted_keys_52_53 b n (toV es) heldO w hown (by rw [toV_size]; unfold maxLen; omega) (by rw [toV_size]; omega))).mono ?_
  rintro e w' ⟨v, ss, rfl, hS, hrow, hnil, hb⟩
  rw [toV_keys] at hS
  rw [sorted_rising es hr hS, hS.length_eq] at hrow
  exact ⟨v, rfl, strs_of hrow, ((Touch.refl _ w).alloc _).trans (touch_belowM hb)⟩
theorem sortedKeys_none (w : World) :
    Calls Try.prog 52 #[.func (.func 75) #[] #[.pointer (some ⟨w.heap.size, 0, none⟩)]] (w.alloc (.cells #[.map none] 66)) fun e w' => ∃ v, e = .returned v ∧ StrsAt w' v [] ∧ Touch (fun _ => False) w w' := by
  refine (callsIn_wide.1 (Try.slices_Sorted_keys_nil_52_53 w)).mono ?_
  rintro e w' ⟨v, ss, rfl, rfl, hrow, hnil, hb⟩
  have : StrsAt w' v [] := strs_of (by simpa using hrow)
  exact ⟨v, rfl, this, ((Touch.refl _ w).alloc _).trans (touch_belowM hb)⟩
section
variable {w : World} {g mt mk : Nat} {hv : Value} {os : List (Key × Inn)} {s : MS}
/-- A map's lookup, and its sorted keys. -/
theorem MapsC.sorted (h : MapsC w g mt mk hv os s) {c k : Int} (hc : U64 c) (hk : U64 k) (hn : (keysS s c k).length ≤ 1000000) : ∃ m : Option Nat, ∀ W, Touch (fun _ => False) w W →
    (Instr.lookup 67 (.map (some mk)) (idV c k) false).run Try.prog W = .ok (.map m) W ∧
    Calls Try.prog 52 #[.func (.func 75) #[] #[.pointer (some ⟨W.heap.size, 0, none⟩)]] (W.alloc (.cells #[.map m] 66)) fun e w' => ∃ v, e = .returned v ∧ StrsAt w' v (keysS s c k) ∧ Touch (fun _ => False) W w' := by
  have hkk : keysS s c k = (((aget (kI c k) os).map innL).getD []).map (·.1) := by unfold keysS; rw [h.getK]
  cases e : aget (kI c k) os with
  | none =>
    rw [e] at hkk
    have hk2 : keysS s c k = [] := hkk
    refine ⟨none, fun W t => ⟨?_, ?_⟩⟩
    · have := keys_look (h.quiet t).keys hc hk
      rw [aget_amap, e] at this; exact this
    · rw [hk2]; exact sortedKeys_none W
  | some i =>
    rw [e] at hkk
    have hk2 : keysS s c k = (amap Rk.v i.es).map (·.1) := by
      rw [hkk]
      show (amap Rk.l i.es).map (·.1) = _
      simp [amap]
    have hlen : (amap Rk.v i.es).length ≤ 1000000 := by
      have := congrArg List.length hk2
      rw [List.length_map] at this
      omega
    refine ⟨some i.b, fun W t => ⟨?_, ?_⟩⟩
    · have := keys_look (h.quiet t).keys hc hk
      rw [aget_amap, e] at this; exact this
    · rw [hk2]
      have hI := (h.quiet t).inn _ (aget_mem e)
      exact sortedKeys_some W hI.owns (hI.rising.amap _) hlen
end
end Go.Proofs.Ytegldlfbmaapiaa
