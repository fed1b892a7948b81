/- Files that are renamed, by the state. -/
import Derived.Test.YtfeojfcnphjbdaaOneF
namespace Go.Proofs.Ytfeojfcnphjbdaa
open Go.RowKit Go.Maps
set_option linter.unusedVariables false

def two (k : Key) (f g : File) (r : Int) : St := ⟨[(k, f), ([122], g)], r, -1⟩
/-- One of the five names. -/
def fiveKey (m : Nat) : Key := [102, 103, 104, 122, 107][m]?.getD 102 :: []
/-- The file m is at that name; the other one at z, or gone. -/
def RenSt (r : Int) (f g : File) (m : Nat) (s : St) : Prop := m < 5 ∧ (s = one (fiveKey m) f r ∨ (m ≠ 3 ∧ s = two (fiveKey m) f g r))

theorem ren_step {r : Int} {f g : File} {m m2 : Nat} {s : St} (h : RenSt r f g m s) (h2 : m2 < 5) : renE s (fiveKey m) (fiveKey m2) = 0 ∧ RenSt r f g m2 (mRename s (fiveKey m) (fiveKey m2)) := by
  obtain ⟨hm, rfl | ⟨h3, rfl⟩⟩ := h
  · have e : ∀ a b : Fin 5, renE (one (fiveKey a) f r) (fiveKey a) (fiveKey b) = 0 ∧ mRename (one (fiveKey a) f r) (fiveKey a) (fiveKey b) = one (fiveKey b) f r := by
      intro a b
      match a, b with
      | 0, 0 | 0, 1 | 0, 2 | 0, 3 | 0, 4 | 1, 0 | 1, 1 | 1, 2 | 1, 3 | 1, 4 | 2, 0 | 2, 1 | 2, 2 | 2, 3 | 2, 4 | 3, 0 | 3, 1 | 3, 2 | 3, 3 | 3, 4 | 4, 0 | 4, 1 | 4, 2 | 4, 3 | 4, 4 => exact ⟨rfl, rfl⟩
    obtain ⟨e1, e2⟩ := e ⟨m, hm⟩ ⟨m2, h2⟩
    exact ⟨e1, h2, .inl e2⟩
  · have e : ∀ a b : Fin 5, a ≠ 3 → renE (two (fiveKey a) f g r) (fiveKey a) (fiveKey b) = 0 ∧ (b = 3 → mRename (two (fiveKey a) f g r) (fiveKey a) (fiveKey b) = one (fiveKey b) f r) ∧ (b ≠ 3 → mRename (two (fiveKey a) f g r) (fiveKey a) (fiveKey b) = two (fiveKey b) f g r) := by
      intro a b ha
      match a, b, ha with
      | 0, 0, _ | 0, 1, _ | 0, 2, _ | 0, 4, _ | 1, 0, _ | 1, 1, _ | 1, 2, _ | 1, 4, _ | 2, 0, _ | 2, 1, _ | 2, 2, _ | 2, 4, _ | 4, 0, _ | 4, 1, _ | 4, 2, _ | 4, 4, _ => exact ⟨rfl, fun h => absurd h (by decide), fun _ => rfl⟩
      | 0, 3, _ | 1, 3, _ | 2, 3, _ | 4, 3, _ => exact ⟨rfl, fun _ => rfl, fun h => absurd rfl h⟩
      | 3, _, h => exact absurd rfl h
    obtain ⟨e1, e2, e3⟩ := e ⟨m, hm⟩ ⟨m2, h2⟩ (fun h => h3 (congrArg Fin.val h))
    refine ⟨e1, h2, ?_⟩
    by_cases hb : m2 = 3
    · exact .inl (e2 (Fin.ext hb))
    · exact .inr ⟨hb, e3 (fun h => hb (congrArg Fin.val h))⟩
theorem two_appE {x : List UInt8} {y : Nat} {z : List UInt8} (h : x.length ≤ 3000) (hz : z.length ≤ 100) : appE (one [102] (x, y) 1048576) [122] z = 0 := by
  unfold appE
  rw [one_used]
  have e : (one [102] (x, y) 1048576).at [122] = ([], 0) := rfl
  rw [e, if_neg (by simp [one]), if_neg (by decide), if_neg]
  simp only [one, List.length_nil]
  rintro (q | q) <;> omega
theorem two_append {x : List UInt8} {y : Nat} {z : List UInt8} (h : x.length ≤ 3000) (hz : z.length ≤ 100) : mAppend (one [102] (x, y) 1048576) [122] z = two [102] (x, y) (z, 0) 1048576 := by
  unfold mAppend
  rw [if_pos (two_appE h hz)]; rfl
/-- What there is behind the renamings: the names, and the crash that keeps c more bytes of the file. -/
theorem ren_end {r : Int} {x : List UInt8} {y : Nat} {g : File} {m : Nat} {s : St} (h : RenSt r (x, y) g m s) (c : Nat) (hy : y + c ≤ x.length) :
    ∃ n, (n = 1 ∨ n = 2) ∧ mList s = (fiveKey m :: [[122]]).take n ∧ (n = 2 → m ≠ 3) ∧ s.fs.length = n ∧ ∀ keep : List Int, keep[0]? = some (c : Int) → mRead (mCrash s keep) (fiveKey m) = x.take (y + c) ∧ (mCrash s keep).err (fiveKey m) = 0 ∧ (mCrash s keep).fs.length = n := by
  obtain ⟨hm, rfl | ⟨h3, rfl⟩⟩ := h
  · refine ⟨1, .inl rfl, rfl, (by intro h; cases h), rfl, fun keep hk => ?_⟩
    have e : mCrash (one (fiveKey m) (x, y) r) keep = one (fiveKey m) (x.take (y + c), y + c) r := by
      simp only [mCrash, one, crashAll, crashA, stay, hk]
      have : min (c : Int).toNat (x.length - y) = c := by omega
      rw [this]
    rw [e]
    exact ⟨one_read, one_err, rfl⟩
  · refine ⟨2, .inr rfl, rfl, fun _ => h3, rfl, fun keep hk => ?_⟩
    have e : ∃ g2, mCrash (two (fiveKey m) (x, y) g r) keep = two (fiveKey m) (x.take (y + c), y + c) g2 r := by
      refine ⟨crashA keep 1 g, ?_⟩
      simp only [mCrash, two, crashAll]
      congr 2
      simp only [crashA, stay, hk]
      have : min (c : Int).toNat (x.length - y) = c := by omega
      rw [this]
    obtain ⟨g2, e⟩ := e
    rw [e]
    refine ⟨?_, ?_, rfl⟩
    · simp [mRead, St.err, St.at, two, aget]
    · simp [St.err, two, aget]
end Go.Proofs.Ytfeojfcnphjbdaa
