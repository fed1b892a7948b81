/- Texts and lists of runes are one another's: what a text's runes are written as is the text, and what right runes are written as has just these runes. It speaks of no program. -/
import Derived.Test.YtegldlfbmaapiaaPart7
import Derived.Lib.MapLaws
import Derived.Lib.RuneBytes
import Derived.RangeFuncNested
import Derived.RangeFuncBound
import Derived.RangeFuncCalls
import Derived.RangeFuncLeaves
import Derived.Shelf.Abstract
import Derived.Shelf.RegionOpen
import Derived.WalkKit
import Derived.OwnWalkIn
import Derived.TacticsInMore
import Derived.LoopNIn
import Derived.LoopIn
import Derived.Lib.OthersKept
namespace Go.Proofs.Ytegldlfbmaapiaa
open Go.RowKit
set_option linter.unusedVariables false
set_option maxRecDepth 10000

/-- A right rune. -/
def okRune (r : Nat) : Prop := r < 55296 ∨ (57344 ≤ r ∧ r ≤ 1114111)
def encR (r : Nat) : List UInt8 := Go.Lib.encodeRune (r : Int)
def encAll (rs : List Nat) : List UInt8 := rs.flatMap encR
theorem encAll_nil : encAll [] = [] := rfl
theorem encAll_cons (r : Nat) (rs : List Nat) : encAll (r :: rs) = encR r ++ encAll rs := by simp [encAll]
theorem encAll_append (a b : List Nat) : encAll (a ++ b) = encAll a ++ encAll b := by simp [encAll]

theorem okRune_end {low n r : Nat} (h : (nxtEnd low n r).2 ≠ 0) : nxtEnd low n r = (r, n) ∧ okRune r ∧ low ≤ r := by
  unfold nxtEnd at h ⊢
  by_cases e : r < low ∨ 1114111 < r ∨ (55296 ≤ r ∧ r < 57344)
  · rw [if_pos e] at h; exact absurd rfl h
  · rw [if_neg e]; exact ⟨rfl, by unfold okRune; omega, by omega⟩

/-- Where the document's step is one it is the library's. -/
theorem nxt_dec (l : List UInt8) (h : (nxt l).2 ≠ 0) : nxt l = Go.Lib.decodeL l ∧ okRune (nxt l).1 := by
  rw [decode_eq]
  have k1 := (l.getD 1 0).toNat_lt
  have k2 := (l.getD 2 0).toNat_lt
  have k3 := (l.getD 3 0).toNat_lt
  unfold nxt at h ⊢
  generalize (l.getD 0 0).toNat = b0 at *
  by_cases c0 : b0 < 128
  · rw [if_pos c0]; unfold decN; rw [if_pos c0]; exact ⟨rfl, by unfold okRune; simp only; omega⟩
  rw [if_neg c0] at h ⊢
  by_cases c1 : 194 ≤ b0 ∧ b0 < 224
  · rw [if_pos c1] at h ⊢
    unfold nxtTail at h ⊢
    by_cases n1 : l.length < 2
    · rw [if_pos n1] at h; exact absurd rfl h
    rw [if_neg n1] at h ⊢
    simp only [Nat.reduceSub, nxtGo] at h ⊢
    by_cases d1 : 128 ≤ (l.getD 1 0).toNat ∧ (l.getD 1 0).toNat < 192
    case neg => rw [if_neg d1] at h; exact absurd rfl h
    rw [if_pos d1] at h ⊢
    simp only at h ⊢
    obtain ⟨e, ok, hl⟩ := okRune_end h
    rw [e]
    refine ⟨?_, ok⟩
    unfold decN
    repeat' split
    all_goals first | rfl | (exfalso; omega)
  rw [if_neg c1] at h ⊢
  by_cases c2 : 224 ≤ b0 ∧ b0 < 240
  · rw [if_pos c2] at h ⊢
    unfold nxtTail at h ⊢
    by_cases n1 : l.length < 3
    · rw [if_pos n1] at h; exact absurd rfl h
    rw [if_neg n1] at h ⊢
    simp only [Nat.reduceSub, nxtGo, Nat.reduceAdd] at h ⊢
    by_cases d1 : 128 ≤ (l.getD 1 0).toNat ∧ (l.getD 1 0).toNat < 192
    case neg => rw [if_neg d1] at h; exact absurd rfl h
    rw [if_pos d1] at h ⊢
    by_cases d2 : 128 ≤ (l.getD 2 0).toNat ∧ (l.getD 2 0).toNat < 192
    case neg => rw [if_neg d2] at h; exact absurd rfl h
    rw [if_pos d2] at h ⊢
    simp only at h ⊢
    obtain ⟨e, ok, hl⟩ := okRune_end h
    rw [e]
    refine ⟨?_, ok⟩
    unfold okRune at ok
    unfold decN
    repeat' split
    all_goals first | (refine Prod.ext ?_ rfl; simp only; omega) | (exfalso; omega)
  rw [if_neg c2] at h ⊢
  by_cases c3 : 240 ≤ b0 ∧ b0 < 245
  case neg => rw [if_neg c3] at h; exact absurd rfl h
  rw [if_pos c3] at h ⊢
  unfold nxtTail at h ⊢
  by_cases n1 : l.length < 4
  · rw [if_pos n1] at h; exact absurd rfl h
  rw [if_neg n1] at h ⊢
  simp only [Nat.reduceSub, nxtGo, Nat.reduceAdd] at h ⊢
  by_cases d1 : 128 ≤ (l.getD 1 0).toNat ∧ (l.getD 1 0).toNat < 192
  case neg => rw [if_neg d1] at h; exact absurd rfl h
  rw [if_pos d1] at h ⊢
  by_cases d2 : 128 ≤ (l.getD 2 0).toNat ∧ (l.getD 2 0).toNat < 192
  case neg => rw [if_neg d2] at h; exact absurd rfl h
  rw [if_pos d2] at h ⊢
  by_cases d3 : 128 ≤ (l.getD 3 0).toNat ∧ (l.getD 3 0).toNat < 192
  case neg => rw [if_neg d3] at h; exact absurd rfl h
  rw [if_pos d3] at h ⊢
  simp only at h ⊢
  obtain ⟨e, ok, hl⟩ := okRune_end h
  rw [e]
  refine ⟨?_, ok⟩
  unfold okRune at ok
  unfold decN
  repeat' split
  all_goals first | (refine Prod.ext ?_ rfl; simp only; omega) | (exfalso; omega)

/-- A step's rune is written as the step's bytes. -/
theorem encR_nxt (l : List UInt8) (hne : l ≠ []) (h : (nxt l).2 ≠ 0) : encR (nxt l).1 = l.take (nxt l).2 := by
  have hd := (nxt_dec l h).1
  have hv : ¬ ((Go.Lib.decodeL l).1 = 65533 ∧ (Go.Lib.decodeL l).2 = 1) := by
    obtain ⟨s1, s2⟩ := steps l.length (l.getD 0 0).toNat (l.getD 1 0).toNat (l.getD 2 0).toNat (l.getD 3 0).toNat (UInt8.toNat_lt _) (UInt8.toNat_lt _) (UInt8.toNat_lt _) (UInt8.toNat_lt _)
    rw [← decode_eq, ← nxt_eq] at s1
    exact fun e => h (s1.2 e)
  rw [hd]
  exact Go.Lib.encode_decode l hne hv

/-- A text's runes are right ones, and written they are the text. -/
theorem enc_runesOf : ∀ (rs : List Nat) (l : List UInt8), runesOf l = some rs → (∀ r ∈ rs, okRune r) ∧ encAll rs = l := by
  intro rs
  induction rs with
  | nil =>
    intro l h
    by_cases hne : l = []
    · subst hne; exact ⟨fun _ h => (by simp at h), rfl⟩
    · rw [runesOf_step hne] at h
      by_cases hz : (nxt l).2 = 0
      · rw [if_pos hz] at h; simp at h
      · rw [if_neg hz] at h; simp at h
  | cons r rs ih =>
    intro l h
    by_cases hne : l = []
    · subst hne; rw [runesOf_nil] at h; simp at h
    rw [runesOf_step hne] at h
    by_cases hz : (nxt l).2 = 0
    · rw [if_pos hz] at h; simp at h
    rw [if_neg hz] at h
    rw [Option.map_eq_some_iff] at h
    obtain ⟨t, ht, e⟩ := h
    rw [List.cons.injEq] at e
    obtain ⟨e1, e2⟩ := e
    subst e1; subst e2
    obtain ⟨i1, i2⟩ := ih _ ht
    refine ⟨fun x hx => ?_, ?_⟩
    · rcases List.mem_cons.1 hx with e | e
      · rw [e]; exact (nxt_dec l hz).2
      · exact i1 x e
    · rw [encAll_cons, encR_nxt l hne hz, i2, List.take_append_drop]

theorem u8_of (z : Int) (n : Nat) (h : z = (n : Int)) (hn : n < 256) : (z.toNat.toUInt8).toNat = n := by
  subst h
  simp
  omega
/-- A right rune's bytes are read as it, whatever stands behind them. -/
theorem nxt_enc (r : Nat) (hr : okRune r) (t : List UInt8) : nxt (encR r ++ t) = (r, (encR r).length) := by
  unfold okRune at hr
  unfold encR Go.Lib.encodeRune
  by_cases c1 : r < 128
  · rw [Go.Lib.encodeRuneZ_one (by omega) (by omega)]
    simp only [List.map_cons, List.map_nil, List.cons_append, List.nil_append]
    have h0 := u8_of (r : Int) r rfl (by omega)
    unfold nxt
    simp only [List.getD_cons_zero, h0, List.length_cons, List.length_nil]
    rw [if_pos c1]
  by_cases c2 : r < 2048
  · rw [Go.Lib.encodeRuneZ_two (by omega) (by omega)]
    simp only [List.map_cons, List.map_nil, List.cons_append, List.nil_append]
    have h0 := u8_of (192 + (r : Int) / 64) (192 + r / 64) (by omega) (by omega)
    have h1 := u8_of (128 + (r : Int) % 64) (128 + r % 64) (by omega) (by omega)
    unfold nxt nxtTail
    simp only [List.getD_cons_zero, List.getD_cons_succ, h0, h1, List.length_cons, List.length_nil, nxtGo, Nat.reduceSub]
    rw [if_neg (by omega), if_pos (by omega), if_neg (by omega), if_pos (by omega)]
    simp only [nxtEnd]
    rw [if_neg (by omega)]
    refine Prod.ext ?_ rfl
    simp only; omega
  by_cases c3 : r < 65536
  · rw [Go.Lib.encodeRuneZ_three (by omega)]
    simp only [List.map_cons, List.map_nil, List.cons_append, List.nil_append]
    have h0 := u8_of (224 + (r : Int) / 4096) (224 + r / 4096) (by omega) (by omega)
    have h1 := u8_of (128 + (r : Int) / 64 % 64) (128 + r / 64 % 64) (by omega) (by omega)
    have h2 := u8_of (128 + (r : Int) % 64) (128 + r % 64) (by omega) (by omega)
    unfold nxt nxtTail
    simp only [List.getD_cons_zero, List.getD_cons_succ, h0, h1, h2, List.length_cons, List.length_nil, nxtGo, Nat.reduceSub, Nat.reduceAdd]
    rw [if_neg (by omega), if_neg (by omega), if_pos (by omega), if_neg (by omega), if_pos (by omega), if_pos (by omega)]
    simp only [nxtEnd]
    rw [if_neg (by omega)]
    refine Prod.ext ?_ rfl
    simp only; omega
  · rw [Go.Lib.encodeRuneZ_four (by omega) (by omega)]
    simp only [List.map_cons, List.map_nil, List.cons_append, List.nil_append]
    have h0 := u8_of (240 + (r : Int) / 262144) (240 + r / 262144) (by omega) (by omega)
    have h1 := u8_of (128 + (r : Int) / 4096 % 64) (128 + r / 4096 % 64) (by omega) (by omega)
    have h2 := u8_of (128 + (r : Int) / 64 % 64) (128 + r / 64 % 64) (by omega) (by omega)
    have h3 := u8_of (128 + (r : Int) % 64) (128 + r % 64) (by omega) (by omega)
    unfold nxt nxtTail
    simp only [List.getD_cons_zero, List.getD_cons_succ, h0, h1, h2, h3, List.length_cons, List.length_nil, nxtGo, Nat.reduceSub, Nat.reduceAdd]
    rw [if_neg (by omega), if_neg (by omega), if_neg (by omega), if_pos (by omega), if_neg (by omega), if_pos (by omega), if_pos (by omega), if_pos (by omega)]
    simp only [nxtEnd]
    rw [if_neg (by omega)]
    refine Prod.ext ?_ rfl
    simp only; omega
theorem encR_len (r : Nat) : 1 ≤ (encR r).length ∧ (encR r).length ≤ 4 := by
  have := Go.Lib.encodeRuneZ_length (r : Int)
  simpa [encR, Go.Lib.encodeRune] using this
/-- Right runes, written, have just these runes. -/
theorem runesOf_enc : ∀ (rs : List Nat), (∀ r ∈ rs, okRune r) → runesOf (encAll rs) = some rs := by
  intro rs
  induction rs with
  | nil => intro _; rfl
  | cons r rs ih =>
    intro h
    have hl := encR_len r
    have hne : encAll (r :: rs) ≠ [] := by
      intro e
      have := congrArg List.length e
      rw [encAll_cons, List.length_append, List.length_nil] at this
      omega
    rw [runesOf_step hne, encAll_cons, nxt_enc r (h r (by simp))]
    simp only
    rw [if_neg (by omega), List.drop_left, ih fun x hx => h x (by simp [hx])]
    rfl
theorem encAll_len (rs : List Nat) : rs.length ≤ (encAll rs).length ∧ (encAll rs).length ≤ 4 * rs.length := by
  induction rs with
  | nil => simp [encAll]
  | cons r rs ih =>
    have := encR_len r
    rw [encAll_cons, List.length_append, List.length_cons]
    omega
theorem runeLen_enc (r : Nat) (hr : okRune r) : Go.Lib.runeLen (r : Int) = ((encR r).length : Int) := by
  unfold okRune at hr
  unfold encR Go.Lib.encodeRune Go.Lib.runeLen
  by_cases c1 : r < 128
  · rw [Go.Lib.encodeRuneZ_one (by omega) (by omega)]; simp only [List.map_cons, List.map_nil, List.length_cons, List.length_nil]
    repeat' split
    all_goals omega
  by_cases c2 : r < 2048
  · rw [Go.Lib.encodeRuneZ_two (by omega) (by omega)]; simp only [List.map_cons, List.map_nil, List.length_cons, List.length_nil]
    repeat' split
    all_goals omega
  by_cases c3 : r < 65536
  · rw [Go.Lib.encodeRuneZ_three (by omega)]; simp only [List.map_cons, List.map_nil, List.length_cons, List.length_nil]
    repeat' split
    all_goals omega
  · rw [Go.Lib.encodeRuneZ_four (by omega) (by omega)]; simp only [List.map_cons, List.map_nil, List.length_cons, List.length_nil]
    repeat' split
    all_goals omega

/-- The runes of a text; of no text: none. -/
def rsOf (l : List UInt8) : List Nat := (runesOf l).getD []
theorem rsOf_some {l : List UInt8} {rs : List Nat} (h : runesOf l = some rs) : rsOf l = rs := by rw [rsOf, h]; rfl
theorem rsOf_none {l : List UInt8} (h : runesOf l = none) : rsOf l = [] := by rw [rsOf, h]; rfl
theorem rsOf_ok (l : List UInt8) : ∀ r ∈ rsOf l, okRune r := by
  intro r hr
  cases h : runesOf l with
  | none => rw [rsOf_none h] at hr; simp at hr
  | some rs => rw [rsOf_some h] at hr; exact (enc_runesOf rs l h).1 r hr
theorem rsOf_len (l : List UInt8) : (rsOf l).length ≤ l.length := by
  cases h : runesOf l with
  | none => rw [rsOf_none h]; simp
  | some rs => rw [rsOf_some h]; have := (encAll_len rs).1; rw [(enc_runesOf rs l h).2] at this; exact this
end Go.Proofs.Ytegldlfbmaapiaa

/- The contract of the iterator that utf.Runes answers: it gives a text's runes with their numbers, one after another, till it is told that it is enough. -/
namespace Go.Proofs.Ytegldlfbmaapiaa
open Go.RowKit Go.Shelf
set_option linter.unusedVariables false
set_option maxRecDepth 100000
attribute [local go_sem] Oper.semAt_some

/-- Runes with their numbers. -/
def enumR : Nat → List Nat → List (Nat × Nat)
  | _, [] => []
  | k, r :: t => (k, r) :: enumR (k + 1) t
theorem enumR_append (k : Nat) (a b : List Nat) : enumR k (a ++ b) = enumR k a ++ enumR (k + a.length) b := by
  induction a generalizing k with
  | nil => rfl
  | cons r a ih => simp only [List.cons_append, enumR, ih, List.length_cons]; rw [show k + 1 + a.length = k + (a.length + 1) from by omega]
theorem enumR_len (k : Nat) (a : List Nat) : (enumR k a).length = a.length := by
  induction a generalizing k with
  | nil => rfl
  | cons r a ih => simp [enumR, ih]
theorem enumR_snoc (a : List Nat) (r : Nat) : enumR 0 (a ++ [r]) = enumR 0 a ++ [(a.length, r)] := by
  rw [enumR_append, Nat.zero_add]; rfl
abbrev enc2 (p : Nat × Nat) : Array Value := #[.int .i64 (p.1 : Int), .int .i32 (p.2 : Int)]
theorem Touch.grownNone {w w' : World} (h : Touch (fun _ => False) w w') : w.grownBy w' none := ⟨h.os, h.tape, h.output, h.size, fun k hk _ => h.block k hk id⟩
theorem Touch.ofBelow {w w' : World} (h : Below w.heap.size w w') : Touch (fun _ => False) w w' := ⟨h.os, h.tape, h.output, h.size, fun k hk _ => h.block k hk⟩
theorem grown_iterAt (w : World) (k : Nat) (s : ByteArray) (pos : Nat) : w.grownBy (w.iterAt k s pos) (some k) :=
  ⟨rfl, rfl, rfl, by rw [Go.Lib.iterAt_size]; exact Nat.le_refl _, fun i hi hn => Go.Lib.iterAt_other w k i s pos (fun e => hn (by rw [e]))⟩

theorem walks_of {W W' : World} (h : KeepsOthers W W') : KeepsWalks W W' := ⟨h.size, fun k o hk ho => h.same k o hk (Obj.not_cells_of_walk ho)⟩
theorem Touch.keepsOthers {w w' : World} (h : Touch (fun _ => False) w w') : KeepsOthers w w' := ⟨h.size, fun k o hk _ => (h.block k (Array.getElem?_eq_some_iff.1 hk).1 id).trans hk⟩
theorem wide1 {n : Nat} : Fence.wide.depth.isSome = true → 1 ≤ n := fun h => absurd h (by simp [Fence.wide])
theorem iterPos_of {w : World} {k : Nat} {s : ByteArray} {p : Nat} (h : w.heap[k]? = some (.stringIter s p)) : w.iterPos k = p := by simp [World.iterPos, h]

end Go.Proofs.Ytegldlfbmaapiaa
