/- A script played on a disk, by its state. It speaks of no program but for what a step is. -/
import Derived.Test.YtfeojfcnphjbdaaLight4
import Derived.Test.YtfeojfcnphjbdaaLiveD
import Derived.Test.YtfeojfcnphjbdaaDelD
namespace Go.Proofs.Ytfeojfcnphjbdaa
open Go.RowKit Go.Maps
set_option linter.unusedVariables false

def StepV.nm (x : StepV) : Key := x.name.data.toList
def StepV.tg (x : StepV) : Key := x.tgt.data.toList
def StepV.app (x : StepV) : Bool := decide (x.what = 0 ∨ x.what = 1 ∨ x.what = 2 ∨ x.what = 3)
def pE (s : St) (x : StepV) : Int :=
  if x.app then appE s x.nm x.b else if x.what = 4 then s.err x.nm else if x.what = 5 then renE s x.nm x.tg else if x.what = 6 then s.err x.nm else if x.what = 7 then s.err x.nm else 1
def pS (s : St) (x : StepV) : St :=
  if x.app then mAppend s x.nm x.b else if x.what = 4 then mSync s x.nm else if x.what = 5 then mRename s x.nm x.tg else if x.what = 6 then mTrunc s x.nm x.n else if x.what = 7 then mDelete s x.nm else s
def pEnd (s : St) (l : List StepV) : St := l.foldl pS s
/-- 1, if nought is told. -/
def done0 (e : Int) : Nat := if e = 0 then 1 else 0
def pCnt : St → List StepV → Nat
  | _, [] => 0
  | s, x :: r => done0 (pE s x) + pCnt (pS s x) r
theorem pEnd_snoc (s : St) (l : List StepV) (x : StepV) : pEnd s (l ++ [x]) = pS (pEnd s l) x := by simp [pEnd]
theorem pCnt_snoc (x : StepV) : ∀ (s : St) (l : List StepV), pCnt s (l ++ [x]) = pCnt s l + done0 (pE (pEnd s l) x)
  | s, [] => by simp [pCnt, pEnd]
  | s, y :: r => by
    simp only [List.cons_append, pCnt]
    rw [pCnt_snoc x (pS s y) r]
    simp only [pEnd, List.foldl_cons]; omega
theorem pCnt_le (l : List StepV) : ∀ s, pCnt s l ≤ l.length := by
  induction l with
  | nil => intro s; simp [pCnt]
  | cons x r ih => intro s; have := ih (pS s x); simp only [pCnt, List.length_cons, done0]; split <;> omega
theorem to_len (s : St) (fs : List (Key × File)) : (s.to fs).fs.length = fs.length := rfl
theorem pS_len (s : St) (x : StepV) : (pS s x).fs.length ≤ s.fs.length + 1 := by
  unfold pS mAppend mSync mRename mTrunc mDelete
  have h1 := fun (k : Key) (f : File) => length_aput k f s.fs
  have h2 := fun (k : Key) => length_adel k s.fs
  have h3 := fun (k k2 : Key) (f : File) => length_aput k2 f (adel k s.fs)
  split
  · split
    · rw [to_len]; exact h1 _ _
    · omega
  split
  · split
    · rw [to_len]; exact h1 _ _
    · omega
  split
  · split
    · rw [to_len]; have := h3 x.nm x.tg (s.at x.nm); have := h2 x.nm; omega
    · omega
  split
  · split
    · rw [to_len]; exact h1 _ _
    · omega
  split
  · split
    · rw [to_len]; have := h2 x.nm; omega
    · omega
  · omega
theorem pEnd_len (l : List StepV) : ∀ s, (pEnd s l).fs.length ≤ s.fs.length + l.length := by
  induction l with
  | nil => intro s; simp [pEnd]
  | cons x r ih => intro s; have := ih (pS s x); have := pS_len s x; simp only [pEnd, List.foldl_cons, List.length_cons] at *; omega

theorem lDel {w0 w : World} {d : Nat} {F : Nat → Prop} {s : St} (h : Live w0 w d F s) (hn : s.fs.length ≤ 1073741823) (k : ByteArray) (hk : k.size ≤ 281474976710656) :
    Calls Try.prog 21 #[dp d, .string k] w fun e w' => e = .returned (.int .i64 (s.err k.data.toList)) ∧ LPost w0 d F (mDelete s k.data.toList) w w' :=
  (delete_any h.disk hn k hk).mono fun e w' ⟨he, hP⟩ => ⟨he, live_post h hP⟩
theorem LPost.pre {w0 w w1 w2 : World} {d : Nat} {F : Nat → Prop} {s : St} (t : Touch (fun _ => False) w w1) (h : LPost w0 d F s w1 w2) : LPost w0 d F s w w2 := by
  obtain ⟨F', h1, hs⟩ := h
  exact ⟨F', h1, (Step.same t).trans hs⟩
theorem LPost.trans {w0 w w1 w2 : World} {d : Nat} {F F1 : Nat → Prop} {s : St} (hs : Step F F1 w w1) (h : LPost w0 d F1 s w1 w2) : LPost w0 d F s w w2 := by
  obtain ⟨F', h1, h2⟩ := h
  exact ⟨F', h1, hs.trans h2⟩
end Go.Proofs.Ytfeojfcnphjbdaa
