/- The contracts of disk's file.first, bytes.Clone. -/
import Derived.Test.YtfmpbkdmcgkeoaaDSmall
import Derived.Deep.RegionHeld3
import Derived.BigRegion
namespace Go.Proofs.Ytfmpbkdmcgkeoaa
open Go.RowKit Go.Maps
set_option linter.unusedVariables false

/-- How many bytes are left. -/
def cutAt (n : Int) (len : Nat) : Nat := min n.toNat len
/-- A file's first bytes. -/
def firstF (f : Fl) (n : Int) : Fl :=
  match f.v with
  | .slice ao _ cap => ⟨.slice ao (cutAt n f.bs.length) cap, f.bs.take (cutAt n f.bs.length), min f.syn (cutAt n f.bs.length)⟩
  | _ => f

set_option maxRecDepth 100000 in
set_option maxHeartbeats 800000 in
theorem first_raw (ao : Option Addr) (len cap syn c : Nat) (n : Int) (w : World) (hn : -9223372036854775808 ≤ n ∧ n ≤ 9223372036854775807) (hl : len ≤ 4194304) (hc : len ≤ cap) (hc2 : cap ≤ maxLen) (hs : syn ≤ len) (hnone : ao = none → cap = 0) (hcc : c = cutAt n len) :
    Calls Try.prog 47 #[.agg #[.slice ao len cap, .int .i64 (syn : Int)], .int .i64 n] w fun e w' => e = .returned (.agg #[.slice ao c cap, .int .i64 (min syn c : Nat)]) ∧ Touch (fun _ => False) w w' := by
  unfold maxLen at hc2
  by_cases h0 : 0 ≤ n
  · by_cases h1 : n ≤ len
    · obtain rfl : n = (c : Int) := by subst hcc; unfold cutAt; omega
      clear hcc h0
      have h1 : c ≤ len := by omega
      by_cases h2 : c < syn
      · rw [show min syn c = c from by omega]
        have h3 : (c : Int) < (syn : Int) := by omega
        go_enter Try.func47, Try.ntmps47
        go_wp2_with fail
        go_region
        all_goals go_wp2_with fail
        all_goals exact bodyPost_ret (v := .agg #[.slice ao c cap, .int .i64 (c : Nat)]) (by simp [results, Try.results47, go_sem]) rfl ⟨rfl, (((Touch.refl _ w).alloc _).alloc _).drew⟩
      · rw [show min syn c = syn from by omega]
        have h3 : ¬ (c : Int) < (syn : Int) := by omega
        go_enter Try.func47, Try.ntmps47
        go_wp2_with fail
        go_region
        all_goals go_wp2_with fail
        all_goals exact bodyPost_ret (v := .agg #[.slice ao c cap, .int .i64 (syn : Nat)]) (by simp [results, Try.results47, go_sem]) rfl ⟨rfl, (((Touch.refl _ w).alloc _).alloc _).drew⟩
    · obtain rfl : c = len := by subst hcc; unfold cutAt; omega
      clear hcc
      rw [show min syn c = syn from by omega]
      have h3 : ¬ (c : Int) < (syn : Int) := by omega
      go_enter Try.func47, Try.ntmps47
      go_wp2_with fail
      go_region
      all_goals go_wp2_with fail
      all_goals exact bodyPost_ret (v := .agg #[.slice ao c cap, .int .i64 (syn : Nat)]) (by simp [results, Try.results47, go_sem]) rfl ⟨rfl, (((Touch.refl _ w).alloc _).alloc _).drew⟩
  · obtain rfl : c = 0 := by subst hcc; unfold cutAt; omega
    clear hcc
    rw [show min syn 0 = 0 from by omega]
    rcases Nat.eq_zero_or_pos syn with rfl | h2
    · go_enter Try.func47, Try.ntmps47
      go_wp2_with fail
      go_region
      all_goals go_wp2_with fail
      all_goals exact bodyPost_ret (v := .agg #[.slice ao 0 cap, .int .i64 (0 : Nat)]) (by simp [results, Try.results47, go_sem]) rfl ⟨rfl, (((Touch.refl _ w).alloc _).alloc _).drew⟩
    · have h3 : (0 : Int) < (syn : Int) := by omega
      go_enter Try.func47, Try.ntmps47
      go_wp2_with fail
      go_region
      all_goals go_wp2_with fail
      all_goals exact bodyPost_ret (v := .agg #[.slice ao 0 cap, .int .i64 (0 : Nat)]) (by simp [results, Try.results47, go_sem]) rfl ⟨rfl, (((Touch.refl _ w).alloc _).alloc _).drew⟩
end Go.Proofs.Ytfmpbkdmcgkeoaa

/- What a disk's calls do, by the state alone. It speaks of no program. -/
namespace Go.Proofs.Ytfmpbkdmcgkeoaa
open Go.RowKit Go.Maps
set_option linter.unusedVariables false

abbrev File := List UInt8 × Nat
def St.err (s : St) (k : Key) : Int := if s.power = 0 then 43 else if (aget k s.fs).isSome then 0 else 40
def St.at (s : St) (k : Key) : File := (aget k s.fs).getD ([], 0)
def St.used (s : St) : Nat := asum (fun x : File => x.1.length) s.fs
def St.to (s : St) (fs : List (Key × File)) : St := ⟨fs, s.room, spent s.power⟩
def firstA (f : File) (n : Int) : File := (f.1.take (cutAt n f.1.length), min f.2 (cutAt n f.1.length))
def appE (s : St) (k : Key) (b : List UInt8) : Int :=
  if s.power = 0 then 43 else if isNm k = false then 41 else if 4194304 < (s.at k).1.length + b.length ∨ s.room < (s.used : Int) + (b.length : Int) then 42 else 0
def mAppend (s : St) (k : Key) (b : List UInt8) : St := if appE s k b = 0 then s.to (aput k ((s.at k).1 ++ b, (s.at k).2) s.fs) else s
def mSync (s : St) (k : Key) : St := if s.err k = 0 then s.to (aput k ((s.at k).1, (s.at k).1.length) s.fs) else s
def mTrunc (s : St) (k : Key) (n : Int) : St := if s.err k = 0 then s.to (aput k (firstA (s.at k) n) s.fs) else s
def renE (s : St) (k k2 : Key) : Int := if s.err k = 0 then (if isNm k2 then 0 else 41) else s.err k
def mRename (s : St) (k k2 : Key) : St := if renE s k k2 = 0 then s.to (aput k2 (s.at k) (adel k s.fs)) else s
def mDelete (s : St) (k : Key) : St := if s.err k = 0 then s.to (adel k s.fs) else s
def mRead (s : St) (k : Key) : List UInt8 := if s.err k = 0 then (s.at k).1 else []
def mList (s : St) : List Key := if s.power = 0 then [] else s.fs.map (·.1)
def mRoom (s : St) (r : Int) : St := ⟨s.fs, max r 0, s.power⟩
def mCut (s : St) (n : Int) : St := ⟨s.fs, s.room, cutTo s.power n⟩
/-- How many of a file's bytes a crash leaves. -/
def stay (keep : List Int) (i : Nat) (f : File) : Nat := match keep[i]? with | some x => f.2 + min x.toNat (f.1.length - f.2) | none => f.2
def crashA (keep : List Int) (i : Nat) (f : File) : File := (f.1.take (stay keep i f), stay keep i f)
def crashAll (keep : List Int) : Nat → List (Key × File) → List (Key × File)
  | _, [] => []
  | i, p :: r => (p.1, crashA keep i p.2) :: crashAll keep (i + 1) r
def mCrash (s : St) (keep : List Int) : St := ⟨crashAll keep 0 s.fs, s.room, -1⟩
def newSt (room : Int) : St := ⟨[], max room 0, -1⟩

theorem length_ains {α : Type} (k : Key) (x : α) : ∀ l : List (Key × α), (ains k x l).length = l.length + 1
  | [] => rfl
  | y :: r => by unfold ains; split <;> simp [length_ains k x r]
theorem length_adel {α : Type} (k : Key) (l : List (Key × α)) : (adel k l).length ≤ l.length := List.length_filter_le _ _
theorem length_aput {α : Type} (k : Key) (x : α) (l : List (Key × α)) : (aput k x l).length ≤ l.length + 1 := by
  rw [aput, length_ains]; have := length_adel k l; omega

section
variable {es : List (Key × Fl)} {s : St}
theorem err_of (hs : s.fs = amap Fl.abs es) (k : Key) : s.err k = if s.power = 0 then 43 else if (aget k es).isSome then 0 else 40 := by
  unfold St.err; rw [hs, aget_amap]; simp
theorem at_of (hs : s.fs = amap Fl.abs es) (k : Key) : s.at k = (getF k es).abs := by
  unfold St.at getF; rw [hs, aget_amap]; cases aget k es <;> rfl
theorem used_of (hs : s.fs = amap Fl.abs es) : s.used = used es := by
  unfold St.used used; rw [hs, asum_amap]; rfl
end
end Go.Proofs.Ytfmpbkdmcgkeoaa
