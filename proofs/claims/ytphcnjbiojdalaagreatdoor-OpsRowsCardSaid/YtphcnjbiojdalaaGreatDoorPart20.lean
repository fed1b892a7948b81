/- Texts of client 7 that go on where others end: as operations, as one row, as the row's pieces. -/
import Derived.Test.YtphcnjbiojdalaaGreatDoorCutM
import Derived.Test.YtphcnjbiojdalaaGreatDoorPart11
import Derived.Test.YtphcnjbiojdalaaGreatDoorPart19
namespace Go.Proofs.YtphcnjbiojdalaaGreatDoor
open Go.RowKit
set_option linter.unusedVariables false
set_option linter.unusedSimpArgs false
set_option maxRecDepth 100000

/-- The first one, without its text; the one that stands i runes behind it. -/
def a7 : O := { zeroO with c := 7, k := 1, kind := 1 }
def base7 (i : Nat) : O := if i = 0 then a7 else a7.onward i
def p7 (i : Nat) (R : List Nat) : O := (base7 i).withT R
theorem base7_on (i n : Nat) (h : 1 ≤ n) : (base7 i).onward n = base7 (i + n) := by
  unfold base7
  by_cases e : i = 0
  · subst e
    rw [if_pos rfl, if_neg (by omega), Nat.zero_add]
  · rw [if_neg e, if_neg (by omega), onward_add]
theorem base7_k (i : Nat) : (base7 i).k = 1 + (i : Int) ∧ (base7 i).c = 7 ∧ (base7 i).kind = 1 := by
  unfold base7
  split
  · rename_i h; subst h; exact ⟨rfl, rfl, rfl⟩
  · exact ⟨rfl, rfl, rfl⟩
theorem p7_on (i n : Nat) (R S : List Nat) (h : 1 ≤ n) : ((p7 i R).onward n).withT S = p7 (i + n) S := by
  show (((base7 i).withT R).onward n).withT S = _
  rw [withT_onward, onward_withT, base7_on i n h]
  rfl
theorem p7_len (i : Nat) {R : List Nat} (h : ∀ r ∈ R, okRune r) : rsO (p7 i R) = R ∧ lenO (p7 i R) = R.length := by
  have e := rsO_withT (base7 i) h
  refine ⟨e, ?_⟩
  have hk : (p7 i R).kind = 1 := (base7_k i).2.2
  rw [lenO_text hk]
  exact congrArg List.length e
theorem p7_fits (i : Nat) (R : List Nat) (hi : i ≤ 1000000) : (p7 i R).fits := by
  unfold p7 base7
  split
  · refine ⟨?_, ?_, ?_, ?_, ?_, ?_, ?_, ?_, ?_, ?_, ?_, ?_, ?_, ?_, ?_, ?_, ?_⟩ <;> simp [O.withT, a7, zeroO]
  · refine ⟨?_, ?_, ?_, ?_, ?_, ?_, ?_, ?_, ?_, ?_, ?_, ?_, ?_, ?_, ?_, ?_, ?_⟩ <;> simp [O.withT, O.onward, a7, zeroO] <;> omega
/-- One that is taken. -/
structure Ok7 (i : Nat) (R : List Nat) : Prop where
  ok : ∀ r ∈ R, okRune r
  n1 : 1 ≤ R.length
  n2 : R.length ≤ 4096
  ii : i ≤ 1000000
theorem p7_size {i : Nat} {R : List Nat} (h : Ok7 i R) : (p7 i R).tx.size ≤ 1000000 := (enc_bytes R h.n1 h.n2).2
theorem p7_check {i : Nat} {R : List Nat} (h : Ok7 i R) : checkB (p7 i R) = true := by
  have hs := p7_size h
  have hl := (p7_len i h.ok).2
  have bk := base7_k i
  have n1 := h.n1
  have n2 := h.n2
  have ii := h.ii
  have ek : (p7 i R).k = 1 + (i : Int) := bk.1
  have ec : (p7 i R).c = 7 := bk.2.1
  refine (text_iff _ (p7_fits i R h.ii) (by omega) bk.2.2).2 ⟨⟨by omega, by omega⟩, by rw [hl]; omega, ?_, ?_, ?_, ?_⟩
  · have : (p7 i R).v = ⟨0, 0, 0, ⟨#[]⟩⟩ := by
      unfold p7 base7
      split <;> rfl
    rw [this]
    refine ⟨rfl, ?_⟩
    have h0 : vOk ⟨0, 0, 0, ⟨#[]⟩⟩ = true := by kernel_rfl
    unfold refCheck
    rw [h0]
    rfl
  · unfold p7 base7
    split <;> simp [O.withT, O.onward, a7, zeroO] <;> rfl
  · refine ⟨(named_iff _ _).2 ?_, (named_iff _ _).2 ?_⟩
    · unfold p7 base7
      split
      · exact .inl ⟨rfl, rfl⟩
      · refine .inr ⟨?_, ?_⟩
        · show (1 : Int) ≤ 7 ∧ (7 : Int) ≤ _
          omega
        · show 1 ≤ (1 : Int) + (i : Int) - 1 ∧ (1 : Int) + (i : Int) - 1 ≤ _
          omega
    · refine .inl ?_
      unfold p7 base7
      split <;> exact ⟨rfl, rfl⟩
  · constructor
    · rw [Bool.eq_false_iff]
      intro ho
      rw [own_iff, ek, ec] at ho
      revert ho
      unfold p7 base7
      split
      · rintro ⟨h1, _⟩
        have : (0 : Int) = 7 := h1
        omega
      · rintro ⟨_, h2, _⟩
        have : 1 + (i : Int) ≤ 1 + (i : Int) - 1 := h2
        omega
    · rw [Bool.eq_false_iff]
      intro ho
      rw [own_iff, ek, ec] at ho
      revert ho
      unfold p7 base7
      split
      · rintro ⟨h1, _⟩
        have : (0 : Int) = 7 := h1
        omega
      · rintro ⟨h1, _⟩
        have : (0 : Int) = 7 := h1
        omega
theorem p7_text {i : Nat} {R : List Nat} (h : Ok7 i R) : TextO (p7 i R) := by
  have hs := p7_size h
  exact textO_of (p7_fits i R h.ii) (by omega) (base7_k i).2.2 (p7_check h)
theorem p7_small {i : Nat} {R : List Nat} (h : Ok7 i R) : (p7 i R).tx.size ≤ 1000000 ∧ (p7 i R).ky.size ≤ 1000000 ∧ (p7 i R).vs.size ≤ 1000000 ∧ (p7 i R).vf < 18446744073709551616 := by
  refine ⟨p7_size h, ?_, ?_, ?_⟩ <;> (unfold p7 base7; split <;> simp [O.withT, O.onward, a7, zeroO] <;> decide)
/-- A list of them, one behind the other from i on. -/
inductive Row7 : Nat → List O → List Nat → Prop
  | nil (i : Nat) : Row7 i [] []
  | cons {i : Nat} {R : List Nat} {l : List O} {S : List Nat} (h : Ok7 i R) (t : Row7 (i + R.length) l S) : Row7 i (p7 i R :: l) (R ++ S)
theorem Row7.chain {j : Nat} {X : List Nat} {i : Nat} {l : List O} {S : List Nat} (h : Row7 i l S) : ∀ n, 1 ≤ n → i = j + n → Chain (p7 j X) n l := by
  induction h with
  | nil i => intro n h1 h2; trivial
  | cons h t ih =>
    rename_i i' R l S
    intro n h1 h2
    have hl := p7_len i' h.ok
    refine ⟨?_, p7_text h, ?_⟩
    · rw [hl.1, p7_on j n X R h1, h2]
    · rw [hl.2]
      exact ih (n + R.length) (by omega) (by omega)
theorem Row7.texts {i : Nat} {l : List O} {S : List Nat} (h : Row7 i l S) : l.flatMap rsO = S := by
  induction h with
  | nil i => rfl
  | cons h t ih => rw [List.flatMap_cons, (p7_len _ h.ok).1, ih]
theorem Row7.all {i : Nat} {l : List O} {S : List Nat} (h : Row7 i l S) : ∀ b ∈ l, ∃ j R, b = p7 j R ∧ Ok7 j R := by
  induction h with
  | nil i => intro b hb; cases hb
  | cons h t ih =>
    intro b hb
    rcases List.mem_cons.1 hb with rfl | hb
    · exact ⟨_, _, rfl, h⟩
    · exact ih b hb
theorem Row7.ok {i : Nat} {l : List O} {S : List Nat} (h : Row7 i l S) : ∀ r ∈ S, okRune r := by
  induction h with
  | nil i => intro r hr; cases hr
  | cons h t ih =>
    intro r hr
    rcases List.mem_append.1 hr with hr | hr
    · exact h.ok r hr
    · exact ih r hr
theorem Row7.app {i : Nat} {l : List O} {S : List Nat} (h : Row7 i l S) : ∀ {l' : List O} {S' : List Nat}, Row7 (i + S.length) l' S' → Row7 i (l ++ l') (S ++ S') := by
  induction h with
  | nil i => intro l' S' h'; exact h'
  | cons h t ih =>
    intro l' S' h'
    rw [List.append_assoc]
    refine Row7.cons h (ih ?_)
    rw [List.length_append, ← Nat.add_assoc] at h'
    exact h'
theorem Row7.one {i : Nat} {R : List Nat} (h : Ok7 i R) : Row7 i [p7 i R] R := by
  have := Row7.cons h (Row7.nil (i + R.length))
  rwa [List.append_nil] at this
/-- Chunks are one. -/
theorem Row7.ofChunks : ∀ (f i : Nat) (R : List Nat), (∀ r ∈ R, okRune r) → 1 ≤ R.length → R.length ≤ 4096 * f → i + R.length ≤ 1000000 → Row7 i (chunks f (base7 i) R) R
  | 0, i, R, _, h1, h2, _ => by omega
  | f + 1, i, R, ho, h1, h2, h3 => by
    by_cases hs : R.length ≤ 4096
    · rw [chunks_small _ hs]
      exact Row7.one ⟨ho, h1, hs, by omega⟩
    · have ht : (R.take 4096).length = 4096 := by rw [List.length_take]; omega
      have hd : (R.drop 4096).length = R.length - 4096 := List.length_drop
      have e := chunks_big (f := f) (base7 i) ht (R := R.drop 4096) (by omega)
      rw [List.take_append_drop, base7_on i 4096 (by omega)] at e
      rw [e]
      have := Row7.cons (i := i) (R := R.take 4096) ⟨fun r hr => ho r (List.mem_of_mem_take hr), by omega, by omega, by omega⟩ (by
        rw [ht]
        exact Row7.ofChunks f (i + 4096) (R.drop 4096) (fun r hr => ho r (List.mem_of_mem_drop hr)) (by omega) (by omega) (by omega))
      rw [List.take_append_drop] at this
      exact this
theorem chunks_base : ∀ (f i : Nat) (X R : List Nat), chunks f (p7 i X) R = chunks f (base7 i) R
  | 0, _, _, _ => rfl
  | f + 1, i, X, R => by
    rw [chunks, chunks]
    split
    · rfl
    · show _ :: chunks f (((base7 i).withT X).onward 4096) _ = _ :: chunks f ((base7 i).onward 4096) _
      rw [withT_onward, base7_on i 4096 (by omega)]
      exact congrArg _ (chunks_base f (i + 4096) X _)
/-- What ops.Join gives of such a row. -/
theorem Row7.join {i : Nat} {l : List O} {S : List Nat} (h : Row7 i l S) (hne : l ≠ []) :
    ∃ a t, l = a :: t ∧ TextO a ∧ Chain a (lenO a) t ∧ (a :: t).Perm (l.filter checkB) ∧ (a :: t).flatMap rsO = S ∧ ∀ f, chunks f a S = chunks f (base7 i) S := by
  have hfl : l.filter checkB = l := List.filter_eq_self.2 fun b hb => by
    obtain ⟨j, R, rfl, ho⟩ := h.all b hb
    exact p7_check ho
  have ht := h.texts
  cases h with
  | nil => exact absurd rfl hne
  | cons ho t =>
    rename_i R l S
    refine ⟨_, _, rfl, p7_text ho, ?_, by rw [hfl], ht, fun f => chunks_base f i R _⟩
    rw [(p7_len i ho.ok).2]
    exact t.chain R.length ho.n1 rfl
theorem Row7.sized {i : Nat} {l : List O} {S : List Nat} (h : Row7 i l S) : Sized l := fun b hb => by
  obtain ⟨j, R, rfl, ho⟩ := h.all b hb
  exact p7_small ho
/-- n texts of the runes R, from the i-th on. -/
def rows7 (R : List Nat) : Nat → Nat → List O
  | _, 0 => []
  | i, n + 1 => p7 (i * R.length) R :: rows7 R (i + 1) n
def rep7 (R : List Nat) : Nat → List Nat
  | 0 => []
  | n + 1 => R ++ rep7 R n
theorem rep7_len (R : List Nat) : ∀ n, (rep7 R n).length = n * R.length
  | 0 => by simp [rep7]
  | n + 1 => by rw [rep7, List.length_append, rep7_len R n, Nat.succ_mul]; omega
theorem rep7_snoc (R : List Nat) : ∀ n, rep7 R (n + 1) = rep7 R n ++ R
  | 0 => by simp [rep7]
  | n + 1 => by
    show R ++ rep7 R (n + 1) = (R ++ rep7 R n) ++ R
    rw [rep7_snoc R n, List.append_assoc]
theorem rep7_add (R : List Nat) (m : Nat) : ∀ n, rep7 R (n + m) = rep7 R n ++ rep7 R m
  | 0 => by simp [rep7]
  | n + 1 => by rw [Nat.succ_add, rep7, rep7_add R m n, rep7, List.append_assoc]
theorem rep7_ok {R : List Nat} (h : ∀ r ∈ R, okRune r) : ∀ n, ∀ r ∈ rep7 R n, okRune r
  | 0, r, hr => by cases hr
  | n + 1, r, hr => by
    rcases List.mem_append.1 hr with hr | hr
    · exact h r hr
    · exact rep7_ok h n r hr
theorem rows7_len (R : List Nat) : ∀ i n, (rows7 R i n).length = n
  | _, 0 => rfl
  | i, n + 1 => by rw [rows7, List.length_cons, rows7_len R (i + 1) n]
theorem rows7_get (R : List Nat) : ∀ (i n j : Nat) (h : j < (rows7 R i n).length), (rows7 R i n)[j] = p7 ((i + j) * R.length) R
  | _, 0, j, h => by cases h
  | i, n + 1, 0, h => rfl
  | i, n + 1, j + 1, h => by
    show (rows7 R (i + 1) n)[j]'_ = _
    rw [rows7_get R (i + 1) n j, show i + 1 + j = i + (j + 1) from by omega]
theorem rows7_snoc (R : List Nat) : ∀ i n, rows7 R i (n + 1) = rows7 R i n ++ [p7 ((i + n) * R.length) R]
  | i, 0 => rfl
  | i, n + 1 => by
    rw [rows7, rows7_snoc R (i + 1) n, rows7, show i + 1 + n = i + (n + 1) from by omega]
    rfl
theorem rows7_take (R : List Nat) : ∀ (i n j : Nat), j ≤ n → (rows7 R i n).take j = rows7 R i j ∧ (rows7 R i n).drop j = rows7 R (i + j) (n - j)
  | i, n, 0, _ => ⟨by simp [rows7], by simp⟩
  | i, 0, j + 1, h => by omega
  | i, n + 1, j + 1, h => by
    have ih := rows7_take R (i + 1) n j (by omega)
    rw [rows7, List.take_succ_cons, List.drop_succ_cons, ih.1, ih.2, show i + 1 + j = i + (j + 1) from by omega, show n + 1 - (j + 1) = n - j from by omega]
    exact ⟨rfl, rfl⟩
theorem rows7_row {R : List Nat} (ho : ∀ r ∈ R, okRune r) (h1 : 1 ≤ R.length) (h2 : R.length ≤ 4096) : ∀ (n i : Nat), (i + n) * R.length ≤ 1000000 → Row7 (i * R.length) (rows7 R i n) (rep7 R n)
  | 0, i, _ => Row7.nil _
  | n + 1, i, h => by
    have e : (i + (n + 1)) * R.length = i * R.length + (n + 1) * R.length := Nat.add_mul _ _ _
    refine Row7.cons ⟨ho, h1, h2, by omega⟩ ?_
    rw [← Nat.succ_mul]
    exact rows7_row ho h1 h2 n (i + 1) (by rw [show i + 1 + n = i + (n + 1) from by omega]; exact h)
/-- The document's row goes on with the next one. -/
theorem fits7 {R : List Nat} (ho : ∀ r ∈ R, okRune r) (h1 : 1 ≤ R.length) (i : Nat) (hi : 1 ≤ i) (hn : (i + 1) * R.length ≤ 1000000) : fitsB (p7 0 (rep7 R i)) (p7 (i * R.length) R) = true := by
  have hl := (p7_len 0 (rep7_ok ho i)).2
  rw [rep7_len] at hl
  have e1 : (i + 1) * R.length = i * R.length + R.length := Nat.succ_mul _ _
  have e2 : 1 ≤ i * R.length := Nat.le_trans hi (Nat.le_mul_of_pos_right i h1)
  have hE : endO (p7 0 (rep7 R i)) = 1 + ((i * R.length : Nat) : Int) := by
    unfold endO
    rw [hl]
    show IntKind.u64.wrap (1 + _) = _
    rw [wrap_u64_small _ (by omega) (by omega)]
  have hw : IntKind.u64.wrap (1 + ((i * R.length : Nat) : Int) - 1) = ((i * R.length : Nat) : Int) := by
    rw [wrap_u64_small _ (by omega) (by omega)]
    omega
  unfold fitsB
  rw [hE, hw]
  have eb : base7 (i * R.length) = a7.onward (i * R.length) := by unfold base7; rw [if_neg (by omega)]
  unfold p7
  rw [eb]
  simp only [Bool.and_eq_true, beq_iff_eq]
  refine ⟨rfl, rfl, rfl, ⟨rfl, rfl⟩, rfl, rfl, ?_⟩
  show (1 : Int) + ((i * R.length : Nat) : Int) - 1 = _
  omega
/-- The document's cuts of a row are its chunks. -/
theorem cut7 {F : List Nat} (ho : ∀ r ∈ F, okRune r) (i j : Nat) (h1 : i < j) (h2 : j ≤ F.length) (h3 : F.length ≤ 1000000) : cutRef (p7 0 F) (i : Int) (j : Int) = p7 i ((F.take j).drop i) := by
  have hl := p7_len 0 ho
  have hk : cutOk (p7 0 F) (i : Int) (j : Int) = true := by unfold cutOk; rw [hl.2]; simp; omega
  have k1 : (p7 0 F).kind = 1 := rfl
  have e0 : rsOf (p7 0 F).tx.data.toList = F := hl.1
  unfold cutRef
  rw [if_pos hk, if_pos k1]
  by_cases hi : i = 0
  · subst hi
    rw [if_neg (by omega)]
    unfold O.cutT cutOf cutR
    rw [e0]
    rfl
  · rw [if_pos (by omega)]
    have w1 : IntKind.u64.wrap (i : Int) = (i : Int) := wrap_u64_small _ (by omega) (by omega)
    have w2 : IntKind.u64.wrap (1 + (i : Int)) = 1 + (i : Int) := wrap_u64_small _ (by omega) (by omega)
    have w3 : IntKind.u64.wrap (1 + (i : Int) - 1) = 1 + (i : Int) - 1 := wrap_u64_small _ (by omega) (by omega)
    have kk : (p7 0 F).k = 1 := rfl
    unfold O.cutT0 O.moved cutOf cutR
    rw [e0, kk, w1, w2, w3]
    unfold p7 base7
    rw [if_neg hi, if_pos rfl]
    rfl
/-- ASCII. -/
theorem enc_ascii : ∀ (R : List Nat), (∀ r ∈ R, r < 128) → encAll R = R.map UInt8.ofNat
  | [], _ => rfl
  | r :: R, h => by
    have hr := h r (List.mem_cons_self ..)
    rw [encAll_cons, enc_ascii R (fun x hx => h x (List.mem_cons_of_mem _ hx)), List.map_cons]
    have : encR r = [UInt8.ofNat r] := by
      unfold encR Go.Lib.encodeRune
      rw [Go.Lib.encodeRuneZ_one (by omega) (by omega)]
      rfl
    rw [this]
    rfl
end Go.Proofs.YtphcnjbiojdalaaGreatDoor

/- A row's chunks one by one; the text of OpsRows; a row's chunks joined again. -/
namespace Go.Proofs.YtphcnjbiojdalaaGreatDoor
open Go.RowKit
set_option linter.unusedVariables false
set_option linter.unusedSimpArgs false
set_option maxRecDepth 100000

theorem chunks_get : ∀ (f a : Nat) (R : List Nat) (i : Nat) (h : i < (chunks f (base7 a) R).length), (chunks f (base7 a) R)[i] = p7 (a + 4096 * i) ((R.drop (4096 * i)).take 4096)
  | 0, a, R, i, h => by cases h
  | f + 1, a, R, i, h => by
    by_cases hs : R.length ≤ 4096
    · have e := chunks_small (f := f) (base7 a) hs
      have hi : i = 0 := by rw [e] at h; simpa using h
      subst hi
      simp only [e, List.getElem_cons_zero, Nat.mul_zero, List.drop_zero, Nat.add_zero]
      rw [List.take_of_length_le hs]
      rfl
    · have ht : (R.take 4096).length = 4096 := by rw [List.length_take]; omega
      have e := chunks_big (f := f) (base7 a) ht (R := R.drop 4096) (by rw [List.length_drop]; omega)
      rw [List.take_append_drop, base7_on a 4096 (by omega)] at e
      simp only [e] at h ⊢
      cases i with
      | zero =>
        rw [List.getElem_cons_zero, Nat.mul_zero, List.drop_zero]
        rfl
      | succ i =>
        rw [List.getElem_cons_succ, chunks_get f (a + 4096) (R.drop 4096) i (by simpa using h), List.drop_drop, show a + 4096 + 4096 * i = a + 4096 * (i + 1) from by omega, show 4096 + 4096 * i = 4096 * (i + 1) from by omega]
theorem chunks_count : ∀ (f a : Nat) (R : List Nat), 1 ≤ R.length → R.length ≤ 4096 * f → ∀ i, i < (chunks f (base7 a) R).length ↔ 4096 * i < R.length
  | 0, a, R, h1, h2, i => by omega
  | f + 1, a, R, h1, h2, i => by
    by_cases hs : R.length ≤ 4096
    · rw [chunks_small (f := f) (base7 a) hs, List.length_singleton]
      omega
    · have ht : (R.take 4096).length = 4096 := by rw [List.length_take]; omega
      have hd : (R.drop 4096).length = R.length - 4096 := List.length_drop
      have e := chunks_big (f := f) (base7 a) ht (R := R.drop 4096) (by omega)
      rw [List.take_append_drop, base7_on a 4096 (by omega)] at e
      rw [e, List.length_cons]
      cases i with
      | zero => omega
      | succ i =>
        have := chunks_count f (a + 4096) (R.drop 4096) (by omega) (by omega) i
        omega
/-- What a place in the list of chunks holds. -/
structure At7 (F : List Nat) (i : Nat) (x : O) (z : Nat) : Prop where
  eq : x = p7 (4096 * i) ((F.drop (4096 * i)).take 4096)
  len : lenO x = z
  rs : (rsOf x.tx.data.toList).length = z
  size : x.tx.size ≤ 1000000
  vf : x.vf < 18446744073709551616
theorem at7 {F : List Nat} (ho : ∀ r ∈ F, okRune r) (h1 : 1 ≤ F.length) (h2 : F.length ≤ 30000) (i : Nat) (h : i < (chunks 8 a7 F).length) : At7 F i (chunks 8 a7 F)[i] (min (F.length - 4096 * i) 4096) := by
  have h' : i < (chunks 8 (base7 0) F).length := h
  have hc := (chunks_count 8 0 F h1 (by omega) i).1 h'
  have e : (chunks 8 a7 F)[i]'h = p7 (4096 * i) ((F.drop (4096 * i)).take 4096) := by
    have := chunks_get 8 0 F i h'
    rw [Nat.zero_add] at this
    exact this
  have hl : ((F.drop (4096 * i)).take 4096).length = min (F.length - 4096 * i) 4096 := by rw [List.length_take, List.length_drop]; omega
  have h7 : Ok7 (4096 * i) ((F.drop (4096 * i)).take 4096) := ⟨fun r hr => ho r (List.mem_of_mem_drop (List.mem_of_mem_take hr)), by omega, by omega, by omega⟩
  have hp := p7_len (4096 * i) h7.ok
  have hsm := p7_small h7
  refine ⟨e, by rw [e, hp.2, hl], ?_, by rw [e]; exact hsm.1, by rw [e]; exact hsm.2.2.2⟩
  rw [e]
  have : rsOf (p7 (4096 * i) ((F.drop (4096 * i)).take 4096)).tx.data.toList = (F.drop (4096 * i)).take 4096 := hp.1
  rw [this, hl]
/-- ops.Join of a row of client 7. -/
theorem join7 {i : Nat} {l : List O} {S : List Nat} (h : Row7 i l S) (hne : l ≠ []) (hS : S.length ≤ 30000) (hl : l.length ≤ 1048576) (v : Value) (w : World) (hU : TabsU w) (hsl : SlP w v l) :
    Calls Tryz.prog 23 #[v] w fun e w' => ∃ v', e = .returned v' ∧ NewP w w' v' (chunks 8 (base7 i) S) := by
  obtain ⟨a, t, e, ha, hc, hp, hf, hj⟩ := h.join hne
  have := join_any l a t 7 v w hU hsl hl h.sized hp ha hc (by rw [hf]; omega) (by omega)
  rw [hf, hj] at this
  exact this
/-- The alphabet. -/
def abc : List Nat := List.range' 97 26
theorem abc_str : (⟨#[97, 98, 99, 100, 101, 102, 103, 104, 105, 106, 107, 108, 109, 110, 111, 112, 113, 114, 115, 116, 117, 118, 119, 120, 121, 122]⟩ : ByteArray) = strOf (encAll abc) := by
  apply ByteArray.ext
  rw [enc_ascii abc (by decide)]
  rfl
theorem rep_lt (k : Nat) : ∀ r ∈ rep7 abc k, r < 128 := by
  induction k with
  | zero => intro r hr; cases hr
  | succ k ih =>
    intro r hr
    rcases List.mem_append.1 hr with hr | hr
    · have : ∀ r ∈ abc, r < 128 := by decide
      exact this r hr
    · exact ih r hr
theorem rep_size (k : Nat) : (strOf (encAll (rep7 abc k))).size = 26 * k := by
  rw [strOf_size, enc_ascii _ (rep_lt k), List.length_map, rep7_len]
  show k * 26 = _
  omega
/-- The first m runes of the text. -/
theorem rep_cut (k m : Nat) : (encAll (rep7 abc k)).take m = encAll ((rep7 abc k).take m) := by
  rw [enc_ascii _ (rep_lt k), enc_ascii _ (fun r hr => rep_lt k r (List.mem_of_mem_take hr)), List.map_take]
/-- The two halves' chunks are a row. -/
theorem halves {R : List Nat} (ho : ∀ r ∈ R, okRune r) (h1 : 1 ≤ R.length) (n j : Nat) (hn : 1 ≤ n) (hj : j < n) (hN : n * R.length ≤ 30000) :
    Row7 0 ((if j = 0 then [] else chunks 8 (base7 0) (rep7 R j)) ++ chunks 8 (base7 (j * R.length)) (rep7 R (n - j))) (rep7 R n) := by
  have e : rep7 R n = rep7 R j ++ rep7 R (n - j) := by rw [← rep7_add, show j + (n - j) = n from by omega]
  have hm : j * R.length + (n - j) * R.length = n * R.length := by rw [← Nat.add_mul, show j + (n - j) = n from by omega]
  have hm1 : R.length ≤ (n - j) * R.length := Nat.le_mul_of_pos_left _ (by omega)
  have hl := rep7_len R (n - j)
  have hl1 := rep7_len R j
  have b2 : Row7 (j * R.length) (chunks 8 (base7 (j * R.length)) (rep7 R (n - j))) (rep7 R (n - j)) := Row7.ofChunks 8 _ _ (rep7_ok ho _) (by omega) (by omega) (by omega)
  rw [e]
  refine Row7.app ?_ (by rw [hl1, Nat.zero_add]; exact b2)
  by_cases h0 : j = 0
  · subst h0
    rw [if_pos rfl]
    exact Row7.nil 0
  · rw [if_neg h0]
    have hm0 : R.length ≤ j * R.length := Nat.le_mul_of_pos_left _ (by omega)
    exact Row7.ofChunks 8 0 _ (rep7_ok ho _) (by omega) (by omega) (by omega)
end Go.Proofs.YtphcnjbiojdalaaGreatDoor
