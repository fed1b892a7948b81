/- A disk of one file, by its state. It speaks of no program. -/
import Derived.Test.YtfeojfcnphjbdaaModel
namespace Go.Proofs.Ytfeojfcnphjbdaa
open Go.RowKit Go.Maps
set_option linter.unusedVariables false

def one (k : Key) (f : File) (r : Int) : St := ⟨[(k, f)], r, -1⟩
section
variable {k : Key} {x : List UInt8} {y : Nat} {r : Int}
theorem one_err : (one k (x, y) r).err k = 0 := by simp [one, St.err, aget]
theorem one_at : (one k (x, y) r).at k = (x, y) := by simp [one, St.at, aget]
theorem one_used : (one k (x, y) r).used = x.length := by simp [one, St.used, asum]
theorem one_put (f g : File) : aput k g (one k f r).fs = [(k, g)] := by simp [one, aput, adel, ains]
theorem one_to (g : File) : (one k (x, y) r).to [(k, g)] = one k g r := by simp [one, St.to, spent]
theorem new_appE {b : List UInt8} (hk : isNm k = true) (h1 : b.length ≤ 4194304) (h2 : (b.length : Int) ≤ r) (hr : 0 ≤ r) : appE (newSt r) k b = 0 := by
  unfold appE newSt St.at St.used
  simp only [asum, aget, List.map_nil, List.sum_nil, Option.getD_none, List.length_nil]
  rw [if_neg (by decide), if_neg (by rw [hk]; decide), if_neg]
  rintro (h | h) <;> omega
theorem new_append {b : List UInt8} (hk : isNm k = true) (h1 : b.length ≤ 4194304) (h2 : (b.length : Int) ≤ r) (hr : 0 ≤ r) : mAppend (newSt r) k b = one k (b, 0) r := by
  unfold mAppend
  rw [if_pos (new_appE hk h1 h2 hr)]
  have : max r 0 = r := by omega
  simp [newSt, St.to, St.at, aget, aput, adel, ains, one, spent, this]
theorem one_appE {b : List UInt8} (hk : isNm k = true) (h1 : x.length + b.length ≤ 4194304) (h2 : (x.length : Int) + (b.length : Int) ≤ r) : appE (one k (x, y) r) k b = 0 := by
  unfold appE
  rw [one_at, one_used, if_neg (by simp [one]), if_neg (by rw [hk]; decide), if_neg]
  simp only [one]
  rintro (h | h) <;> omega
theorem one_append {b : List UInt8} (hk : isNm k = true) (h1 : x.length + b.length ≤ 4194304) (h2 : (x.length : Int) + (b.length : Int) ≤ r) : mAppend (one k (x, y) r) k b = one k (x ++ b, y) r := by
  unfold mAppend
  rw [if_pos (one_appE hk h1 h2), one_at, one_put, one_to]
theorem one_sync : mSync (one k (x, y) r) k = one k (x, x.length) r := by
  unfold mSync
  rw [if_pos one_err, one_at, one_put, one_to]
theorem one_trunc (n : Int) : mTrunc (one k (x, y) r) k n = one k (x.take (cutAt n x.length), min y (cutAt n x.length)) r := by
  unfold mTrunc
  rw [if_pos one_err, one_at, one_put, one_to]; rfl
theorem one_read : mRead (one k (x, y) r) k = x := by unfold mRead; rw [if_pos one_err, one_at]
theorem one_crash : mCrash (one k (x, y) r) [] = one k (x.take y, y) r := by
  simp [mCrash, one, crashAll, crashA, stay]
theorem one_len : (one k (x, y) r).fs.length ≤ 1073741823 := by simp [one]
end
end Go.Proofs.Ytfeojfcnphjbdaa
