/- A disk that was made since: its calls. -/
import Derived.Test.YtfmpbkdmcgkeoaaSyncD
import Derived.Test.YtfmpbkdmcgkeoaaTruncD
import Derived.Test.YtfmpbkdmcgkeoaaRenD
import Derived.Test.YtfmpbkdmcgkeoaaReadD
import Derived.Test.YtfmpbkdmcgkeoaaAppD
import Derived.Test.YtfmpbkdmcgkeoaaCrashD
namespace Go.Proofs.Ytfmpbkdmcgkeoaa
open Go.RowKit Go.Maps Go.Sort
set_option linter.unusedVariables false

/-- Block d is a disk in the state s, its blocks F, all made since w0; of what lay in w0 nothing has turned. -/
structure Live (w0 w : World) (d : Nat) (F : Nat → Prop) (s : St) : Prop where
  disk : Disk w d F s
  since : Touch (fun _ => False) w0 w
  new : ∀ k, F k → w0.heap.size ≤ k
/-- From w to w' nothing has turned but F; F' is F, and new blocks. -/
structure Step (F F' : Nat → Prop) (w w' : World) : Prop where
  touch : Touch F w w'
  foot : ∀ k, k < w.heap.size → F' k → F k
/-- A block that is none of F's. -/
structure Free (F : Nat → Prop) (w : World) (g : Nat) : Prop where
  lt : g < w.heap.size
  out : ¬ F g
theorem Free.step {F F' : Nat → Prop} {w w' : World} {g : Nat} (h : Free F w g) (t : Step F F' w w') : Free F' w' g := ⟨Nat.lt_of_lt_of_le h.lt t.touch.size, fun x => h.out (t.foot g h.lt x)⟩
theorem Free.same {F F' : Nat → Prop} {w w' : World} {g : Nat} (h : Free F w g) (t : Step F F' w w') : w'.heap[g]? = w.heap[g]? := t.touch.block g h.lt h.out
theorem Free.touch {F : Nat → Prop} {w w' : World} {g : Nat} (h : Free F w g) (t : Touch (fun _ => False) w w') : Free F w' g := ⟨Nat.lt_of_lt_of_le h.lt t.size, h.out⟩
theorem Step.trans {F F' F'' : Nat → Prop} {w w' w'' : World} (h : Step F F' w w') (k : Step F' F'' w' w'') : Step F F'' w w'' := ⟨h.touch.then k.touch h.foot, fun i hi x => h.foot i hi (k.foot i (Nat.lt_of_lt_of_le hi h.touch.size) x)⟩
theorem Step.same {F : Nat → Prop} {w w' : World} (t : Touch (fun _ => False) w w') : Step F F w w' := ⟨t.mono fun _ _ h => h.elim, fun _ _ h => h⟩

section
variable {w0 w w' : World} {d : Nat} {F : Nat → Prop} {s s' : St}
def LPost (w0 : World) (d : Nat) (F : Nat → Prop) (s' : St) (w w' : World) : Prop := ∃ F', Live w0 w' d F' s' ∧ Step F F' w w'
theorem live_post (h : Live w0 w d F s) (hP : DPost d F s' w w') : LPost w0 d F s' w w' := by
  obtain ⟨F', hD', t', hf⟩ := hP
  refine ⟨F', ⟨hD', h.since.then t' fun k hk x => ?_, fun k hk => ?_⟩, ⟨t', hf⟩⟩
  · exact absurd hk (Nat.not_lt.2 (h.new k x))
  · rcases Nat.lt_or_ge k w.heap.size with x | x
    · exact h.new k (hf k x hk)
    · exact Nat.le_trans h.since.size x
theorem Live.touch (h : Live w0 w d F s) (t : Touch (fun _ => False) w w') : Live w0 w' d F s :=
  ⟨h.disk.touch t fun _ _ => id, h.since.trans t, h.new⟩
/-- A block made behind w0's last: free of a disk that lies in w. -/
theorem Live.free (h : Live w0 w d F s) {g : Nat} (t : w.heap.size ≤ w'.heap.size) (hg : w.heap.size ≤ g) (hl : g < w'.heap.size) : Free F w' g := ⟨hl, fun x => Nat.lt_irrefl g (Nat.lt_of_lt_of_le (h.disk.lt x) hg)⟩
/-- A block that lay in w0. -/
theorem Live.old (h : Live w0 w d F s) {g : Nat} (hg : g < w0.heap.size) : Free F w g := ⟨Nat.lt_of_lt_of_le hg h.since.size, fun x => Nat.lt_irrefl g (Nat.lt_of_lt_of_le hg (h.new g x))⟩

abbrev dp (d : Nat) : Value := .pointer (some ⟨d, 0, none⟩)

theorem lNew (r : Int) (hr : -9223372036854775808 ≤ r ∧ r ≤ 9223372036854775807) (w : World) : Calls Try.prog 6 #[.int .i64 r] w fun e w' => ∃ d F, e = .returned (dp d) ∧ Live w w' d F (newSt r) :=
  (new_any r hr w).mono fun e w' ⟨d, F, he, hD, t, hF⟩ => ⟨d, F, he, hD, t, hF⟩
theorem lAppend (h : Live w0 w d F s) (hn : s.fs.length ≤ 1073741823) (k : ByteArray) (hk : k.size ≤ 281474976710656) (g : Nat) (ao : Option Addr) (b : List UInt8) (nb cap : Nat) (hnb : nb = b.length) (hno : ao = none → cap = 0) (hL : Lies w g ao b) (hb : b.length ≤ 140737488355328) :
    Calls Try.prog 9 #[dp d, .string k, .slice ao nb cap] w fun e w' => e = .returned (.int .i64 (appE s k.data.toList b)) ∧ LPost w0 d F (mAppend s k.data.toList b) w w' :=
  (append_any h.disk hn k hk g ao b nb cap hnb hno hL hb).mono fun e w' ⟨he, hP⟩ => ⟨he, live_post h hP⟩
theorem lSync (h : Live w0 w d F s) (hn : s.fs.length ≤ 1073741823) (k : ByteArray) (hk : k.size ≤ 281474976710656) :
    Calls Try.prog 12 #[dp d, .string k] w fun e w' => e = .returned (.int .i64 (s.err k.data.toList)) ∧ LPost w0 d F (mSync s k.data.toList) w w' :=
  (sync_any h.disk hn k hk).mono fun e w' ⟨he, hP⟩ => ⟨he, live_post h hP⟩
theorem lTrunc (h : Live w0 w d F s) (hn : s.fs.length ≤ 1073741823) (k : ByteArray) (hk : k.size ≤ 281474976710656) (n : Int) (hni : -9223372036854775808 ≤ n ∧ n ≤ 9223372036854775807) :
    Calls Try.prog 16 #[dp d, .string k, .int .i64 n] w fun e w' => e = .returned (.int .i64 (s.err k.data.toList)) ∧ LPost w0 d F (mTrunc s k.data.toList n) w w' :=
  (truncate_any h.disk hn k hk n hni).mono fun e w' ⟨he, hP⟩ => ⟨he, live_post h hP⟩
theorem lRename (h : Live w0 w d F s) (hn : s.fs.length ≤ 1073741823) (k : ByteArray) (hk : k.size ≤ 281474976710656) (k2 : ByteArray) (hk2 : k2.size ≤ 281474976710656) :
    Calls Try.prog 14 #[dp d, .string k, .string k2] w fun e w' => e = .returned (.int .i64 (renE s k.data.toList k2.data.toList)) ∧ LPost w0 d F (mRename s k.data.toList k2.data.toList) w w' :=
  (rename_any h.disk hn k hk k2 hk2).mono fun e w' ⟨he, hP⟩ => ⟨he, live_post h hP⟩
theorem lCut (h : Live w0 w d F s) (r : Int) (hr : -9223372036854775808 ≤ r ∧ r ≤ 9223372036854775807) :
    Calls Try.prog 25 #[dp d, .int .i64 r] w fun e w' => e = .returned (.tuple #[]) ∧ LPost w0 d F (mCut s r) w w' :=
  (dCut_any h.disk r hr).mono fun e w' ⟨he, hP⟩ => ⟨he, live_post h hP⟩
/-- Crash, of numbers that lay in w0, or of none. -/
theorem lCrash (h : Live w0 w d F s) (hn : s.fs.length ≤ 1073741823) (g : Nat) (ao : Option Addr) (keep : List Int) (nk cap : Nat) (hnk : nk = keep.length) (hL : LiesI w g ao keep) (hki : ∀ x ∈ keep, -9223372036854775808 ≤ x ∧ x ≤ 9223372036854775807) (hg : keep ≠ [] → ¬ F g) (hkl : keep.length ≤ 9223372036854775807) :
    Calls Try.prog 27 #[dp d, .slice ao nk cap] w fun e w' => e = .returned (.tuple #[]) ∧ LPost w0 d F (mCrash s keep) w w' :=
  (crash_any h.disk hn g ao keep nk cap hnk hL hki hg hkl).mono fun e w' ⟨he, hP⟩ => ⟨he, live_post h hP⟩
theorem lRead (h : Live w0 w d F s) (hn : s.fs.length ≤ 1073741823) (k : ByteArray) (hk : k.size ≤ 281474976710656) :
    Calls Try.prog 20 #[dp d, .string k] w fun e w' => (∃ v, e = .returned (.tuple #[v, .int .i64 (s.err k.data.toList)]) ∧ w'.ownsRow w.heap.size 5 1 v (mRead s k.data.toList).length (cellsOf (mRead s k.data.toList))) ∧ Live w0 w' d F s ∧ Touch (fun _ => False) w w' :=
  (read_any h.disk hn k hk).mono fun e w' ⟨he, hP⟩ => ⟨he, h.touch hP, hP⟩
theorem lList (h : Live w0 w d F s) (hn : s.fs.length ≤ 1073741823) : Calls Try.prog 32 #[dp d] w fun e w' => NamesPost (mList s) w e w' ∧ Live w0 w' d F s := by
  refine (dList_any h.disk hn).mono fun e w' hP => ⟨hP, ?_⟩
  obtain ⟨v, _, _, t2⟩ := hP
  exact h.touch t2
theorem lUsed (h : Live w0 w d F s) : Calls Try.prog 33 #[dp d] w fun e w' => e = .returned (.int .i64 (s.used : Int)) ∧ w' = w := dUsed_any h.disk
theorem lDead (h : Live w0 w d F s) : Calls Try.prog 34 #[dp d] w fun e w' => e = .returned (.bool (decide (s.power = 0))) ∧ w' = w := dDead_any h.disk

/-- Bytes that lie in a block that is none of F's. -/
structure LF (F : Nat → Prop) (w : World) (g : Nat) (ao : Option Addr) (bs : List UInt8) : Prop where
  lies : Lies w g ao bs
  free : bs ≠ [] → Free F w g
theorem LF.step {F F' : Nat → Prop} {w w' : World} {g : Nat} {ao : Option Addr} {bs : List UInt8} (h : LF F w g ao bs) (t : Step F F' w w') : LF F' w' g ao bs := ⟨h.lies.keep fun e => (h.free e).same t, fun e => (h.free e).step t⟩
theorem LF.touch {F : Nat → Prop} {w w' : World} {g : Nat} {ao : Option Addr} {bs : List UInt8} (h : LF F w g ao bs) (t : Touch (fun _ => False) w w') : LF F w' g ao bs := h.step (Step.same t)
theorem LF.take {F : Nat → Prop} {w : World} {g : Nat} {ao : Option Addr} {bs : List UInt8} (h : LF F w g ao bs) (n : Nat) : LF F w g ao (bs.take n) := ⟨h.lies.take n, fun e => h.free fun h0 => e (by rw [h0]; simp)⟩
theorem lf_old {w : World} {w1 w2 : World} {d : Nat} {F : Nat → Prop} {s : St} (h : Live w1 w2 d F s) (t : Touch (fun _ => False) w w1) {g : Nat} {ao : Option Addr} {bs : List UInt8} (hL : Lies w g ao bs) : LF F w2 g ao bs :=
  ⟨hL.keep fun e => ((t.trans h.since).block g (hL.lt e) id), fun e => h.old (Nat.lt_of_lt_of_le (hL.lt e) t.size)⟩
/-- What was read, or made, behind w. -/
theorem Live.read {F : Nat → Prop} (h : Live w0 w d F s) (t : w.heap.size ≤ w'.heap.size) {v : Value} {bs : List UInt8} (hr : w'.ownsRow w.heap.size 5 1 v bs.length (cellsOf bs)) : ∃ ao cap g, v = .slice ao bs.length cap ∧ LF F w' g ao bs ∧ (ao = none → cap = 0) := by
  obtain ⟨ao, cap, g, hv, hL, hno, _, _, _, hg⟩ := lies_of_owned hr
  refine ⟨ao, cap, g, hv, ⟨hL, fun e => h.free t ?_ (hL.lt e)⟩, hno⟩
  have := hg e
  rcases hr.2 with ⟨e2, _⟩ | ⟨g2, c2, cur, e2, hb, _⟩
  · rw [e2] at this; simp [Value.ownBlock] at this
  · rw [e2] at this; simp [Value.ownBlock] at this; omega

/-- Bytes in a new block. -/
theorem lies_new (w : World) (bs : List UInt8) (fr : Nat × Nat) : Lies (w.alloc (.cells (cellsOf bs).toArray 5 fr)) w.heap.size (some ⟨w.heap.size, 0, none⟩) bs := by
  refine .inr ⟨0, rfl, fun j hj => ?_⟩
  rw [cell_of_block (heap_alloc_new w _)]
  simp [cellsOf, List.getElem?_eq_getElem hj]
end
end Go.Proofs.Ytfmpbkdmcgkeoaa
