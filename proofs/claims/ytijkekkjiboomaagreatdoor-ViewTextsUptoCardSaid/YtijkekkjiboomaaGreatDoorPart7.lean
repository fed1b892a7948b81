/- Texts and lists of runes are one another's: what a text's runes are written as is the text, and what right runes are written as has just these runes. It speaks of no program. -/
import Derived.Test.YtijkekkjiboomaaGreatDoorPart6
import Derived.Lib.MapLaws
import Derived.Lib.RuneBytes
import Derived.WalkKit
import Derived.Test.YtijkekkjiboomaaGreatDoorProg
import Derived.Laws.OwnMore
import Derived.Laws.Cover4
import Derived.Lib.Strings
namespace Go.Proofs.YtijkekkjiboomaaGreatDoor
open Go.RowKit
set_option linter.unusedVariables false
set_option maxRecDepth 10000

/-- A right rune. -/
def okRune (r : Nat) : Prop := r < 55296 ∨ (57344 ≤ r ∧ r ≤ 1114111)
def encR (r : Nat) : List UInt8 := Go.Lib.encodeRune (r : Int)
def encAll (rs : List Nat) : List UInt8 := rs.flatMap encR
theorem encAll_nil : encAll [] = [] := rfl
theorem encAll_cons (r : Nat) (rs : List Nat) : encAll (r :: rs) = encR r ++ encAll rs := by simp [encAll]
theorem encAll_append (a b : List Nat) : encAll (a ++ b) = encAll a ++ encAll b := by simp [encAll]

theorem okRune_end {low n r : Nat} (h : (nxtEnd low n r).2 ≠ 0) : nxtEnd low n r = (r, n) ∧ okRune r ∧ low ≤ r := by
  unfold nxtEnd at h ⊢
  by_cases e : r < low ∨ 1114111 < r ∨ (55296 ≤ r ∧ r < 57344)
  · rw [if_pos e] at h; exact absurd rfl h
  · rw [if_neg e]; exact ⟨rfl, by unfold okRune; omega, by omega⟩

/-- Where the document's step is one it is the library's. -/
theorem nxt_dec (l : List UInt8) (h : (nxt l).2 ≠ 0) : nxt l = Go.Lib.decodeL l ∧ okRune (nxt l).1 := by
  rw [decode_eq]
  have k1 := (l.getD 1 0).toNat_lt
  have k2 := (l.getD 2 0).toNat_lt
  have k3 := (l.getD 3 0).toNat_lt
  unfold nxt at h ⊢
  generalize (l.getD 0 0).toNat = b0 at *
  by_cases c0 : b0 < 128
  · rw [if_pos c0]; unfold decN; rw [if_pos c0]; exact ⟨rfl, by unfold okRune; simp only; omega⟩
  rw [if_neg c0] at h ⊢
  by_cases c1 : 194 ≤ b0 ∧ b0 < 224
  · rw [if_pos c1] at h ⊢
    unfold nxtTail at h ⊢
    by_cases n1 : l.length < 2
    · rw [if_pos n1] at h; exact absurd rfl h
    rw [if_neg n1] at h ⊢
    simp only [Nat.reduceSub, nxtGo] at h ⊢
    by_cases d1 : 128 ≤ (l.getD 1 0).toNat ∧ (l.getD 1 0).toNat < 192
    case neg => rw [if_neg d1] at h; exact absurd rfl h
    rw [if_pos d1] at h ⊢
    simp only at h ⊢
    obtain ⟨e, ok, hl⟩ := okRune_end h
    rw [e]
    refine ⟨?_, ok⟩
    unfold decN
    repeat' split
    all_goals first | rfl | (exfalso; omega)
  rw [if_neg c1] at h ⊢
  by_cases c2 : 224 ≤ b0 ∧ b0 < 240
  · rw [if_pos c2] at h ⊢
    unfold nxtTail at h ⊢
    by_cases n1 : l.length < 3
    · rw [if_pos n1] at h; exact absurd rfl h
    rw [if_neg n1] at h ⊢
    simp only [Nat.reduceSub, nxtGo, Nat.reduceAdd] at h ⊢
    by_cases d1 : 128 ≤ (l.getD 1 0).toNat ∧ (l.getD 1 0).toNat < 192
    case neg => rw [if_neg d1] at h; exact absurd rfl h
    rw [if_pos d1] at h ⊢
    by_cases d2 : 128 ≤ (l.getD 2 0).toNat ∧ (l.getD 2 0).toNat < 192
    case neg => rw [if_neg d2] at h; exact absurd rfl h
    rw [if_pos d2] at h ⊢
    simp only at h ⊢
    obtain ⟨e, ok, hl⟩ := okRune_end h
    rw [e]
    refine ⟨?_, ok⟩
    unfold okRune at ok
    unfold decN
    repeat' split
    all_goals first | (refine Prod.ext ?_ rfl; simp only; omega) | (exfalso; omega)
  rw [if_neg c2] at h ⊢
  by_cases c3 : 240 ≤ b0 ∧ b0 < 245
  case neg => rw [if_neg c3] at h; exact absurd rfl h
  rw [if_pos c3] at h ⊢
  unfold nxtTail at h ⊢
  by_cases n1 : l.length < 4
  · rw [if_pos n1] at h; exact absurd rfl h
  rw [if_neg n1] at h ⊢
  simp only [Nat.reduceSub, nxtGo, Nat.reduceAdd] at h ⊢
  by_cases d1 : 128 ≤ (l.getD 1 0).toNat ∧ (l.getD 1 0).toNat < 192
  case neg => rw [if_neg d1] at h; exact absurd rfl h
  rw [if_pos d1] at h ⊢
  by_cases d2 : 128 ≤ (l.getD 2 0).toNat ∧ (l.getD 2 0).toNat < 192
  case neg => rw [if_neg d2] at h; exact absurd rfl h
  rw [if_pos d2] at h ⊢
  by_cases d3 : 128 ≤ (l.getD 3 0).toNat ∧ (l.getD 3 0).toNat < 192
  case neg => rw [if_neg d3] at h; exact absurd rfl h
  rw [if_pos d3] at h ⊢
  simp only at h ⊢
  obtain ⟨e, ok, hl⟩ := okRune_end h
  rw [e]
  refine ⟨?_, ok⟩
  unfold okRune at ok
  unfold decN
  repeat' split
  all_goals first | (refine Prod.ext ?_ rfl; simp only; omega) | (exfalso; omega)

/-- A step's rune is written as the step's bytes. -/
theorem encR_nxt (l : List UInt8) (hne : l ≠ []) (h : (nxt l).2 ≠ 0) : encR (nxt l).1 = l.take (nxt l).2 := by
  have hd := (nxt_dec l h).1
  have hv : ¬ ((Go.Lib.decodeL l).1 = 65533 ∧ (Go.Lib.decodeL l).2 = 1) := by
    obtain ⟨s1, s2⟩ := steps l.length (l.getD 0 0).toNat (l.getD 1 0).toNat (l.getD 2 0).toNat (l.getD 3 0).toNat (UInt8.toNat_lt _) (UInt8.toNat_lt _) (UInt8.toNat_lt _) (UInt8.toNat_lt _)
    rw [← decode_eq, ← nxt_eq] at s1
    exact fun e => h (s1.2 e)
  rw [hd]
  exact Go.Lib.encode_decode l hne hv

/-- A text's runes are right ones, and written they are the text. -/
theorem enc_runesOf : ∀ (rs : List Nat) (l : List UInt8), runesOf l = some rs → (∀ r ∈ rs, okRune r) ∧ encAll rs = l := by
  intro rs
  induction rs with
  | nil =>
    intro l h
    by_cases hne : l = []
    · subst hne; exact ⟨fun _ h => (by simp at h), rfl⟩
    · rw [runesOf_step hne] at h
      by_cases hz : (nxt l).2 = 0
      · rw [if_pos hz] at h; simp at h
      · rw [if_neg hz] at h; simp at h
  | cons r rs ih =>
    intro l h
    by_cases hne : l = []
    · subst hne; rw [runesOf_nil] at h; simp at h
    rw [runesOf_step hne] at h
    by_cases hz : (nxt l).2 = 0
    · rw [if_pos hz] at h; simp at h
    rw [if_neg hz] at h
    rw [Option.map_eq_some_iff] at h
    obtain ⟨t, ht, e⟩ := h
    rw [List.cons.injEq] at e
    obtain ⟨e1, e2⟩ := e
    subst e1; subst e2
    obtain ⟨i1, i2⟩ := ih _ ht
    refine ⟨fun x hx => ?_, ?_⟩
    · rcases List.mem_cons.1 hx with e | e
      · rw [e]; exact (nxt_dec l hz).2
      · exact i1 x e
    · rw [encAll_cons, encR_nxt l hne hz, i2, List.take_append_drop]

theorem u8_of (z : Int) (n : Nat) (h : z = (n : Int)) (hn : n < 256) : (z.toNat.toUInt8).toNat = n := by
  subst h
  simp
  omega
/-- A right rune's bytes are read as it, whatever stands behind them. -/
theorem nxt_enc (r : Nat) (hr : okRune r) (t : List UInt8) : nxt (encR r ++ t) = (r, (encR r).length) := by
  unfold okRune at hr
  unfold encR Go.Lib.encodeRune
  by_cases c1 : r < 128
  · rw [Go.Lib.encodeRuneZ_one (by omega) (by omega)]
    simp only [List.map_cons, List.map_nil, List.cons_append, List.nil_append]
    have h0 := u8_of (r : Int) r rfl (by omega)
    unfold nxt
    simp only [List.getD_cons_zero, h0, List.length_cons, List.length_nil]
    rw [if_pos c1]
  by_cases c2 : r < 2048
  · rw [Go.Lib.encodeRuneZ_two (by omega) (by omega)]
    simp only [List.map_cons, List.map_nil, List.cons_append, List.nil_append]
    have h0 := u8_of (192 + (r : Int) / 64) (192 + r / 64) (by omega) (by omega)
    have h1 := u8_of (128 + (r : Int) % 64) (128 + r % 64) (by omega) (by omega)
    unfold nxt nxtTail
    simp only [List.getD_cons_zero, List.getD_cons_succ, h0, h1, List.length_cons, List.length_nil, nxtGo, Nat.reduceSub]
    rw [if_neg (by omega), if_pos (by omega), if_neg (by omega), if_pos (by omega)]
    simp only [nxtEnd]
    rw [if_neg (by omega)]
    refine Prod.ext ?_ rfl
    simp only; omega
  by_cases c3 : r < 65536
  · rw [Go.Lib.encodeRuneZ_three (by omega)]
    simp only [List.map_cons, List.map_nil, List.cons_append, List.nil_append]
    have h0 := u8_of (224 + (r : Int) / 4096) (224 + r / 4096) (by omega) (by omega)
    have h1 := u8_of (128 + (r : Int) / 64 % 64) (128 + r / 64 % 64) (by omega) (by omega)
    have h2 := u8_of (128 + (r : Int) % 64) (128 + r % 64) (by omega) (by omega)
    unfold nxt nxtTail
    simp only [List.getD_cons_zero, List.getD_cons_succ, h0, h1, h2, List.length_cons, List.length_nil, nxtGo, Nat.reduceSub, Nat.reduceAdd]
    rw [if_neg (by omega), if_neg (by omega), if_pos (by omega), if_neg (by omega), if_pos (by omega), if_pos (by omega)]
    simp only [nxtEnd]
    rw [if_neg (by omega)]
    refine Prod.ext ?_ rfl
    simp only; omega
  · rw [Go.Lib.encodeRuneZ_four (by omega) (by omega)]
    simp only [List.map_cons, List.map_nil, List.cons_append, List.nil_append]
    have h0 := u8_of (240 + (r : Int) / 262144) (240 + r / 262144) (by omega) (by omega)
    have h1 := u8_of (128 + (r : Int) / 4096 % 64) (128 + r / 4096 % 64) (by omega) (by omega)
    have h2 := u8_of (128 + (r : Int) / 64 % 64) (128 + r / 64 % 64) (by omega) (by omega)
    have h3 := u8_of (128 + (r : Int) % 64) (128 + r % 64) (by omega) (by omega)
    unfold nxt nxtTail
    simp only [List.getD_cons_zero, List.getD_cons_succ, h0, h1, h2, h3, List.length_cons, List.length_nil, nxtGo, Nat.reduceSub, Nat.reduceAdd]
    rw [if_neg (by omega), if_neg (by omega), if_neg (by omega), if_pos (by omega), if_neg (by omega), if_pos (by omega), if_pos (by omega), if_pos (by omega)]
    simp only [nxtEnd]
    rw [if_neg (by omega)]
    refine Prod.ext ?_ rfl
    simp only; omega
theorem encR_len (r : Nat) : 1 ≤ (encR r).length ∧ (encR r).length ≤ 4 := by
  have := Go.Lib.encodeRuneZ_length (r : Int)
  simpa [encR, Go.Lib.encodeRune] using this
/-- Right runes, written, have just these runes. -/
theorem runesOf_enc : ∀ (rs : List Nat), (∀ r ∈ rs, okRune r) → runesOf (encAll rs) = some rs := by
  intro rs
  induction rs with
  | nil => intro _; rfl
  | cons r rs ih =>
    intro h
    have hl := encR_len r
    have hne : encAll (r :: rs) ≠ [] := by
      intro e
      have := congrArg List.length e
      rw [encAll_cons, List.length_append, List.length_nil] at this
      omega
    rw [runesOf_step hne, encAll_cons, nxt_enc r (h r (by simp))]
    simp only
    rw [if_neg (by omega), List.drop_left, ih fun x hx => h x (by simp [hx])]
    rfl
theorem encAll_len (rs : List Nat) : rs.length ≤ (encAll rs).length ∧ (encAll rs).length ≤ 4 * rs.length := by
  induction rs with
  | nil => simp [encAll]
  | cons r rs ih =>
    have := encR_len r
    rw [encAll_cons, List.length_append, List.length_cons]
    omega
theorem runeLen_enc (r : Nat) (hr : okRune r) : Go.Lib.runeLen (r : Int) = ((encR r).length : Int) := by
  unfold okRune at hr
  unfold encR Go.Lib.encodeRune Go.Lib.runeLen
  by_cases c1 : r < 128
  · rw [Go.Lib.encodeRuneZ_one (by omega) (by omega)]; simp only [List.map_cons, List.map_nil, List.length_cons, List.length_nil]
    repeat' split
    all_goals omega
  by_cases c2 : r < 2048
  · rw [Go.Lib.encodeRuneZ_two (by omega) (by omega)]; simp only [List.map_cons, List.map_nil, List.length_cons, List.length_nil]
    repeat' split
    all_goals omega
  by_cases c3 : r < 65536
  · rw [Go.Lib.encodeRuneZ_three (by omega)]; simp only [List.map_cons, List.map_nil, List.length_cons, List.length_nil]
    repeat' split
    all_goals omega
  · rw [Go.Lib.encodeRuneZ_four (by omega) (by omega)]; simp only [List.map_cons, List.map_nil, List.length_cons, List.length_nil]
    repeat' split
    all_goals omega

/-- The runes of a text; of no text: none. -/
def rsOf (l : List UInt8) : List Nat := (runesOf l).getD []
theorem rsOf_some {l : List UInt8} {rs : List Nat} (h : runesOf l = some rs) : rsOf l = rs := by rw [rsOf, h]; rfl
theorem rsOf_none {l : List UInt8} (h : runesOf l = none) : rsOf l = [] := by rw [rsOf, h]; rfl
theorem rsOf_ok (l : List UInt8) : ∀ r ∈ rsOf l, okRune r := by
  intro r hr
  cases h : runesOf l with
  | none => rw [rsOf_none h] at hr; simp at hr
  | some rs => rw [rsOf_some h] at hr; exact (enc_runesOf rs l h).1 r hr
theorem rsOf_len (l : List UInt8) : (rsOf l).length ≤ l.length := by
  cases h : runesOf l with
  | none => rw [rsOf_none h]; simp
  | some rs => rw [rsOf_some h]; have := (encAll_len rs).1; rw [(enc_runesOf rs l h).2] at this; exact this
end Go.Proofs.YtijkekkjiboomaaGreatDoor

/- The contracts of utf.units16, utf.one, quireref3.wide, utf8.RuneLen. -/
namespace Go.Proofs.YtijkekkjiboomaaGreatDoor
open Go.RowKit
set_option linter.unusedVariables false

/-- A rune's units of UTF-16. -/
def un16 (r : Nat) : Nat := if 65535 < r then 2 else 1
def sum16 (l : List Nat) : Nat := (l.map un16).sum
theorem un16_bd (r : Nat) : 1 ≤ un16 r ∧ un16 r ≤ 2 := by unfold un16; split <;> omega
theorem sum16_nil : sum16 [] = 0 := rfl
theorem sum16_cons (r : Nat) (l : List Nat) : sum16 (r :: l) = un16 r + sum16 l := by simp [sum16]
theorem sum16_append (a b : List Nat) : sum16 (a ++ b) = sum16 a + sum16 b := by simp [sum16]
theorem sum16_bd (l : List Nat) : l.length ≤ sum16 l ∧ sum16 l ≤ 2 * l.length := by
  induction l with
  | nil => simp [sum16]
  | cons r l ih => have := un16_bd r; rw [sum16_cons, List.length_cons]; omega

theorem runeLen_any (r : Nat) (w : World) : Calls Tryz.prog 91 #[.int .i32 (r : Int)] w fun e w' => e = .returned (.int .i64 (Go.Lib.runeLen (r : Int))) ∧ w' = w := by
  have hc : r ≤ 127 ∨ (127 < r ∧ r ≤ 2047) ∨ (2047 < r ∧ r < 55296) ∨ (55296 ≤ r ∧ r ≤ 57343) ∨ (57343 < r ∧ r ≤ 65535) ∨ (65535 < r ∧ r ≤ 1114111) ∨ 1114111 < r := by omega
  rcases hc with h | ⟨h, h'⟩ | ⟨h, h'⟩ | ⟨h, h'⟩ | ⟨h, h'⟩ | ⟨h, h'⟩ | h
  · have HE : Hid (Go.Lib.runeLen (r : Int) = 1) := by unfold Go.Lib.runeLen; rw [Hid]; repeat' split
                                                       all_goals omega
    generalize Go.Lib.runeLen (r : Int) = X at *
    go_enter Tryz.func91, Tryz.ntmps91
    go_wp2_with fail
    go_ret
    exact ⟨by rw [HE.out]; rfl, rfl⟩
  · have HE : Hid (Go.Lib.runeLen (r : Int) = 2) := by unfold Go.Lib.runeLen; rw [Hid]; repeat' split
                                                       all_goals omega
    generalize Go.Lib.runeLen (r : Int) = X at *
    go_enter Tryz.func91, Tryz.ntmps91
    go_wp2_with fail
    go_ret
    exact ⟨by rw [HE.out]; rfl, rfl⟩
  · have HE : Hid (Go.Lib.runeLen (r : Int) = 3) := by unfold Go.Lib.runeLen; rw [Hid]; repeat' split
                                                       all_goals omega
    generalize Go.Lib.runeLen (r : Int) = X at *
    go_enter Tryz.func91, Tryz.ntmps91
    go_wp2_with fail
    go_ret
    exact ⟨by rw [HE.out]; rfl, rfl⟩
  · have HE : Hid (Go.Lib.runeLen (r : Int) = -1) := by unfold Go.Lib.runeLen; rw [Hid]; repeat' split
                                                        all_goals omega
    generalize Go.Lib.runeLen (r : Int) = X at *
    go_enter Tryz.func91, Tryz.ntmps91
    go_wp2_with fail
    go_ret
    exact ⟨by rw [HE.out]; rfl, rfl⟩
  · have HE : Hid (Go.Lib.runeLen (r : Int) = 3) := by unfold Go.Lib.runeLen; rw [Hid]; repeat' split
                                                       all_goals omega
    generalize Go.Lib.runeLen (r : Int) = X at *
    go_enter Tryz.func91, Tryz.ntmps91
    go_wp2_with fail
    go_ret
    exact ⟨by rw [HE.out]; rfl, rfl⟩
  · have HE : Hid (Go.Lib.runeLen (r : Int) = 4) := by unfold Go.Lib.runeLen; rw [Hid]; repeat' split
                                                       all_goals omega
    generalize Go.Lib.runeLen (r : Int) = X at *
    go_enter Tryz.func91, Tryz.ntmps91
    go_wp2_with fail
    go_ret
    exact ⟨by rw [HE.out]; rfl, rfl⟩
  · have HE : Hid (Go.Lib.runeLen (r : Int) = -1) := by unfold Go.Lib.runeLen; rw [Hid]; repeat' split
                                                        all_goals omega
    generalize Go.Lib.runeLen (r : Int) = X at *
    go_enter Tryz.func91, Tryz.ntmps91
    go_wp2_with fail
    go_ret
    exact ⟨by rw [HE.out]; rfl, rfl⟩
end Go.Proofs.YtijkekkjiboomaaGreatDoor

/- The contracts of quireref3.Runes in one form, Len, Len16. -/
namespace Go.Proofs.YtijkekkjiboomaaGreatDoor
open Go.RowKit
set_option linter.unusedVariables false
set_option maxRecDepth 100000

/-- A slice of runes lies in w. -/
def Row (w : World) (a : Option Addr) (c : Nat) (rs : List Nat) : Prop :=
  rs.length ≤ c ∧ c ≤ maxLen ∧ (rs ≠ [] → ∃ g, a = some ⟨g, 0, none⟩ ∧ ∀ k, (h : k < rs.length) → w.cell? ⟨g, k, none⟩ = some (.int .i32 (rs[k] : Int)))
theorem Row.keep {w w' : World} {a : Option Addr} {c : Nat} {rs : List Nat} (h : Row w a c rs) (hT : Touch (fun _ => False) w w') : Row w' a c rs := by
  refine ⟨h.1, h.2.1, fun hne => ?_⟩
  obtain ⟨g, e, hc⟩ := h.2.2 hne
  exact ⟨g, e, fun k hk => (hT.cell (World.block_lt_of_cell? _ _ (hc k hk)) id k).trans (hc k hk)⟩
/-- What Runes answers: a slice of the text's runes, and whether it is a text. -/
def RunesAny (l : List UInt8) (w : World) (e : Ending) (w' : World) : Prop :=
  Touch (fun _ => False) w w' ∧ ∃ a c, e = .returned (.tuple #[.slice a (rsOf l).length c, .bool (runesOf l).isSome]) ∧ Row w' a c (rsOf l)
theorem ref_runes_any (s : ByteArray) (hs : s.size ≤ 17592186044416) (w : World) : Calls Tryz.prog 42 #[.string s] w (RunesAny s.data.toList w) := by
  refine (ref_runes s hs w).mono ?_
  rintro e w' ⟨hT, ⟨rs, v, h, rfl, hown⟩ | ⟨h, rfl⟩⟩
  · refine ⟨hT, ?_⟩
    rw [rsOf_some h, h]
    have hown0 := hown
    rcases hown.2 with ⟨e, h0⟩ | ⟨g, cap, cur, e, _, hb, hn, hm, _⟩
    · refine ⟨none, 0, ?_, by omega, Nat.zero_le _, fun hne => absurd (List.eq_nil_of_length_eq_zero h0) hne⟩
      rw [e, h0]; rfl
    · subst e
      refine ⟨_, cap, rfl, hn, hm, fun _ => ⟨g, rfl, fun k hk => ?_⟩⟩
      rw [hown0.cellAt k (by omega), runeCells, List.getElem?_map, List.getElem?_eq_getElem hk]
      rfl
  · refine ⟨hT, ?_⟩
    rw [rsOf_none h, h]
    exact ⟨none, 0, rfl, Nat.le_refl _, Nat.zero_le _, fun hne => absurd rfl hne⟩

theorem sum16_take (rs : List Nat) (k : Nat) (hk : k < rs.length) : sum16 (rs.take (k + 1)) = sum16 (rs.take k) + un16 rs[k] := by
  rw [List.take_succ_eq_append_getElem hk, sum16_append]; simp [sum16]

end Go.Proofs.YtijkekkjiboomaaGreatDoor

/- The document's places: answers as functions, and the contracts of quireref3.Place16, PlaceOf, Cut. -/
namespace Go.Proofs.YtijkekkjiboomaaGreatDoor
open Go.RowKit
set_option linter.unusedVariables false
set_option maxRecDepth 100000

theorem take_mono (rs : List Nat) {j k : Nat} (h : j < k) (hk : k ≤ rs.length) : sum16 (rs.take j) < sum16 (rs.take k) := by
  have e : rs.take k = rs.take j ++ (rs.take k).drop j := by
    have := (List.take_append_drop j (rs.take k)).symm
    rwa [List.take_take, Nat.min_eq_left (by omega)] at this
  rw [e, sum16_append]
  have := (sum16_bd ((rs.take k).drop j)).1
  rw [List.length_drop, List.length_take] at this
  omega
/-- How many runes stand ahead of the place n of UTF-16. -/
def find16 (rs : List Nat) (n : Int) : Option Nat := (List.range (rs.length + 1)).find? fun k => (sum16 (rs.take k) : Int) == n
theorem find16_some {rs : List Nat} {n : Int} {k : Nat} (hk : k ≤ rs.length) (e : (sum16 (rs.take k) : Int) = n) : find16 rs n = some k := by
  unfold find16
  cases h : (List.range (rs.length + 1)).find? fun k => (sum16 (rs.take k) : Int) == n with
  | none =>
    have := List.find?_eq_none.1 h k (by simp; omega)
    simp [e] at this
  | some j =>
    have h1 := List.find?_some h
    have h2 := List.mem_of_find?_eq_some h
    simp only [List.mem_range] at h2
    simp only [beq_iff_eq] at h1
    have : j = k := by
      rcases Nat.lt_trichotomy j k with c | c | c
      · have := take_mono rs c hk; omega
      · exact c
      · have := take_mono rs c (by omega); omega
    rw [this]
theorem find16_none {rs : List Nat} {n : Int} (h : ∀ k, k ≤ rs.length → (sum16 (rs.take k) : Int) ≠ n) : find16 rs n = none := by
  unfold find16
  rw [List.find?_eq_none]
  intro k hk
  simp only [List.mem_range] at hk
  simp only [beq_iff_eq]
  exact h k (by omega)
theorem find16_is {rs : List Nat} {n : Int} {k : Nat} (h : find16 rs n = some k) : k ≤ rs.length ∧ (sum16 (rs.take k) : Int) = n := by
  unfold find16 at h
  have h1 := List.find?_some h
  have h2 := List.mem_of_find?_eq_some h
  simp only [List.mem_range] at h2
  simp only [beq_iff_eq] at h1
  exact ⟨by omega, h1⟩
/-- Place16's answer and error; Place's. -/
def ans16 (l : List UInt8) (n : Int) : Int × Int := match runesOf l with
  | none => (0, 31)
  | some rs => match find16 rs n with
    | some k => ((k : Int), 0)
    | none => (0, 30)
def ansP (l : List UInt8) (n : Int) : Int × Int := match runesOf l with
  | none => (0, 31)
  | some rs => if n < 0 ∨ (rs.length : Int) < n then (0, 30) else ((sum16 (rs.take n.toNat) : Int), 0)
theorem ans16_none {l : List UInt8} (n : Int) (h : runesOf l = none) : ans16 l n = (0, 31) := by unfold ans16; rw [h]
theorem ansP_none {l : List UInt8} (n : Int) (h : runesOf l = none) : ansP l n = (0, 31) := by unfold ansP; rw [h]
theorem ans16_at {l : List UInt8} {rs : List Nat} {n : Int} {k : Nat} (h : runesOf l = some rs) (hk : k ≤ rs.length) (e : (sum16 (rs.take k) : Int) = n) : ans16 l n = ((k : Int), 0) := by unfold ans16; rw [h]; simp only; rw [find16_some hk e]
theorem ans16_no {l : List UInt8} {rs : List Nat} {n : Int} (h : runesOf l = some rs) (hn : ∀ k, k ≤ rs.length → (sum16 (rs.take k) : Int) ≠ n) : ans16 l n = (0, 30) := by unfold ans16; rw [h]; simp only; rw [find16_none hn]
theorem ansP_at {l : List UInt8} {rs : List Nat} {n : Int} (h : runesOf l = some rs) (h0 : 0 ≤ n) (h1 : n ≤ (rs.length : Int)) : ansP l n = ((sum16 (rs.take n.toNat) : Int), 0) := by unfold ansP; rw [h]; simp only; rw [if_neg (by omega)]
theorem ansP_no {l : List UInt8} {rs : List Nat} {n : Int} (h : runesOf l = some rs) (h0 : n < 0 ∨ (rs.length : Int) < n) : ansP l n = (0, 30) := by unfold ansP; rw [h]; simp only; rw [if_pos h0]
theorem ret2_of (p : Int × Int) {a b : Int} (h : p = (a, b)) : Ending.returned (.tuple #[.int .i64 a, .int .i64 b]) = .returned (.tuple #[.int .i64 p.1, .int .i64 p.2]) := by rw [h]

theorem encode_ok (r : Nat) (hr : okRune r) : (Utf8.encode (r : Int)).data.toList = encR r := by
  unfold okRune at hr
  have hv : Utf8.valid (r : Int) = true := by rw [valid_nat]; simpa using hr
  have hz : ∀ n : Nat, UInt8.ofNat n = ((n : Int)).toNat.toUInt8 := fun n => rfl
  unfold Utf8.encode encR Go.Lib.encodeRune
  simp only [hv, if_true, Int.toNat_natCast]
  by_cases c1 : r < 128
  · rw [if_pos c1, Go.Lib.encodeRuneZ_one (by omega) (by omega)]; rfl
  rw [if_neg c1]
  by_cases c2 : r < 2048
  · rw [if_pos c2, Go.Lib.encodeRuneZ_two (by omega) (by omega)]; rfl
  rw [if_neg c2]
  by_cases c3 : r < 65536
  · rw [if_pos c3, Go.Lib.encodeRuneZ_three (by omega)]; rfl
  rw [if_neg c3, Go.Lib.encodeRuneZ_four (by omega) (by omega)]; rfl
theorem runesBytes_go (rs : List Nat) (h : ∀ r ∈ rs, okRune r) : ∀ b : ByteArray, ((rs.map fun r : Nat => (r : Int)).foldl (fun r n => r ++ Utf8.encode n) b).data.toList = b.data.toList ++ encAll rs := by
  induction rs with
  | nil => intro b; simp [encAll]
  | cons r rs ih =>
    intro b
    rw [List.map_cons, List.foldl_cons, ih (fun x hx => h x (by simp [hx])), encAll_cons, ByteArray.data_append, Array.toList_append, encode_ok r (h r (by simp)), List.append_assoc]
theorem bytes_ext {a b : ByteArray} (h : a.data.toList = b.data.toList) : a = b := by
  apply ByteArray.ext; exact Array.toList_inj.1 h
def strOf (l : List UInt8) : ByteArray := ⟨l.toArray⟩
theorem strOf_list (l : List UInt8) : (strOf l).data.toList = l := by simp [strOf]
theorem strOf_self (s : ByteArray) : strOf s.data.toList = s := bytes_ext (strOf_list _)
theorem strOf_size (l : List UInt8) : (strOf l).size = l.length := by show l.toArray.size = _; simp
/-- A slice of runes as a string. -/
theorem runes_str (rs : List Nat) (h : ∀ r ∈ rs, okRune r) : runesBytes (rs.map fun r : Nat => (r : Int)) = strOf (encAll rs) := by
  apply bytes_ext
  rw [strOf_list]
  have := runesBytes_go rs h ByteArray.empty
  simpa [runesBytes] using this
end Go.Proofs.YtijkekkjiboomaaGreatDoor
