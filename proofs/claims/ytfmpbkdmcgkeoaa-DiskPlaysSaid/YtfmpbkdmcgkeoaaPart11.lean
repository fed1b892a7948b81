/- The contract of disk's Delete. -/
import Derived.Test.YtfmpbkdmcgkeoaaPosts
import Derived.Test.YtfmpbkdmcgkeoaaPart8
import Derived.Test.YtfmpbkdmcgkeoaaLight4
import Derived.Test.YtfmpbkdmcgkeoaaLiveD
namespace Go.Proofs.Ytfmpbkdmcgkeoaa
open Go.RowKit Go.Maps
set_option linter.unusedVariables false

set_option maxRecDepth 100000 in
set_option maxHeartbeats 800000 in
theorem delete_any {w : World} {d : Nat} {F : Nat → Prop} {s : St} (hD : Disk w d F s) (hn : s.fs.length ≤ 1073741823) (k : ByteArray) (hk : k.size ≤ 281474976710656) :
    Calls Try.prog 18 #[.pointer (some ⟨d, 0, none⟩), .string k] w fun e w' => e = .returned (.int .i64 (s.err k.data.toList)) ∧ DPost d F (mDelete s k.data.toList) w w' := by
  obtain ⟨m, es, hC, hR, hfs, hF, hFl⟩ := id hD
  have hn2 : es.length ≤ 1073741823 := by rw [hfs, length_amap] at hn; exact hn
  have hkm : k.size ≤ maxLen := by unfold maxLen; omega
  have HF : Hid (Calls Try.prog 44 #[.pointer (some ⟨d, 0, none⟩), .string k] w fun e w' => e = .returned (.tuple #[(foundF s.power k.data.toList es).val, .int .i64 (foundE s.power k.data.toList es)]) ∧ Touch (fun _ => False) w w') := find_any hC k hkm
  have he : s.err k.data.toList = foundE s.power k.data.toList es := err_of hfs _
  have hat : s.at k.data.toList = (getF k.data.toList es).abs := at_of hfs _
  by_cases e0 : foundE s.power k.data.toList es = 0
  · have hp : s.power ≠ 0 := by intro h; simp [foundE, h] at e0
    have hfF : foundF s.power k.data.toList es = getF k.data.toList es := by simp [foundF, hp]
    rw [hfF, e0] at HF
    rw [he, e0]
    have hG := hC.get k.data.toList
    have HL : Hid (∀ W, Touch (fun _ => False) w W → Calls Try.prog 45 #[.pointer (some ⟨d, 0, none⟩), .string k] W (fun e w' => e = .returned (.tuple #[]) ∧ Core w' d m es.length (adel k.data.toList es) s.room s.power ∧ Touch (fun i => i = d ∨ i = m) W w')) := fun W t => drop_any (hC.touch t id id) k hkm (by omega)
    have HS : Hid (∀ W, Core W d m es.length (adel k.data.toList es) s.room s.power → Calls Try.prog 37 #[.pointer (some ⟨d, 0, none⟩)] W (fun e w' => e = .returned (.tuple #[]) ∧ Core w' d m es.length (adel k.data.toList es) s.room (spent s.power) ∧ Touch (fun i => i = d) W w')) := fun W h => spend_any h
    have HQ : Hid (∀ w1 w3 w4 : World, Touch (fun _ => False) w w1 → Core w4 d m es.length (adel k.data.toList es) s.room (spent s.power) → Touch (fun i => i = d ∨ i = m) w1 w3 → Touch (fun i => i = d) w3 w4 → DPost d F (mDelete s k.data.toList) w w4) := by
      intro w1 w3 w4 t1 h4 t3 t4
      have hm : mDelete s k.data.toList = s.to (adel k.data.toList s.fs) := by unfold mDelete; rw [if_pos (he.trans e0)]
      rw [hm]
      have tt : Touch (fun i => i = d ∨ i = m) w w4 := ((t1.mono fun _ _ h => h.elim).trans t3).trans (t4.mono fun _ _ h => .inl h)
      refine del_post hC hR hF h4 tt ?_
      show adel k.data.toList s.fs = _
      rw [hfs]
    generalize adel k.data.toList es = es' at HL HS HQ
    clear hat he hC hR hF hFl hD hfs e0
    obtain ⟨⟨ao, cap, hv⟩, hs1, hs2⟩ := hG
    generalize getF k.data.toList es = f at *
    obtain ⟨v, bs, syn⟩ := f
    simp only at hv hs1 hs2
    subst hv
    simp only [Fl.val] at HF
    generalize mDelete s k.data.toList = S' at *
    go_enter Try.func18, Try.ntmps18
    go_wp2_with fail
    refine HF.out.mono ?_
    rintro e w1 ⟨rfl, hT⟩
    have HT : Hid (Touch (fun _ => False) w w1) := hT
    clear hT HF
    go_wp2_with fail
    refine (HL.out _ (HT.out.alloc _)).mono ?_
    rintro e w3 ⟨rfl, hC3, hT3⟩
    have H3 := (HS.out w3 hC3)
    have HT3 : Hid (Touch (fun i => i = d ∨ i = m) (w1.alloc _) w3) := hT3
    have HS3 : Hid (Calls Try.prog _ _ w3 _) := H3
    clear hT3 hC3 HL H3
    go_wp2_with fail
    refine HS3.out.mono ?_
    rintro e w4 ⟨rfl, hC4, hT4⟩
    have HZ : Hid (DPost d F S' w w4) := HQ.out _ _ _ (HT.out.alloc _) hC4 HT3.out hT4
    clear hC4 hT4 HS3 HQ
    go_wp2_with fail
    go_ret
    exact ⟨rfl, HZ.out⟩
  · have HQ : Hid (∀ w1 : World, Touch (fun _ => False) w w1 → ∀ o, DPost d F (mDelete s k.data.toList) w (w1.alloc o)) := by
      have hm : mDelete s k.data.toList = s := by unfold mDelete; rw [if_neg (by rw [he]; exact e0)]
      intro w1 t o
      rw [hm]
      exact DPost.same hD (t.alloc o)
    rw [he]
    have hG : Good (foundF s.power k.data.toList es) := by
      unfold foundF; split
      · exact zero_good
      · exact hC.get _
    obtain ⟨⟨ao, cap, hv⟩, hs1, hs2⟩ := hG
    clear hat he hC hR hF hFl hD hfs
    generalize foundF s.power k.data.toList es = f at *
    obtain ⟨v, bs, syn⟩ := f
    simp only at hv hs1 hs2
    subst hv
    simp only [Fl.val] at HF
    generalize foundE s.power k.data.toList es = E at *
    generalize mDelete s k.data.toList = S' at *
    go_enter Try.func18, Try.ntmps18
    go_wp2_with fail
    refine HF.out.mono ?_
    rintro e w1 ⟨rfl, hT⟩
    have HT : Hid (Touch (fun _ => False) w w1) := hT
    clear hT HF
    go_wp2_with fail
    go_ret
    exact ⟨rfl, HQ.out _ HT.out _⟩
end Go.Proofs.Ytfmpbkdmcgkeoaa

/- A script played on a disk, by its state. It speaks of no program but for what a step is. -/
namespace Go.Proofs.Ytfmpbkdmcgkeoaa
open Go.RowKit Go.Maps
set_option linter.unusedVariables false

def StepV.nm (x : StepV) : Key := x.name.data.toList
def StepV.tg (x : StepV) : Key := x.tgt.data.toList
def StepV.app (x : StepV) : Bool := decide (x.what = 0 ∨ x.what = 1 ∨ x.what = 2 ∨ x.what = 3)
def pE (s : St) (x : StepV) : Int :=
  if x.app then appE s x.nm x.b else if x.what = 4 then s.err x.nm else if x.what = 5 then renE s x.nm x.tg else if x.what = 6 then s.err x.nm else if x.what = 7 then s.err x.nm else 1
def pS (s : St) (x : StepV) : St :=
  if x.app then mAppend s x.nm x.b else if x.what = 4 then mSync s x.nm else if x.what = 5 then mRename s x.nm x.tg else if x.what = 6 then mTrunc s x.nm x.n else if x.what = 7 then mDelete s x.nm else s
def pEnd (s : St) (l : List StepV) : St := l.foldl pS s
/-- 1, if nought is told. -/
def done0 (e : Int) : Nat := if e = 0 then 1 else 0
def pCnt : St → List StepV → Nat
  | _, [] => 0
  | s, x :: r => done0 (pE s x) + pCnt (pS s x) r
theorem pEnd_snoc (s : St) (l : List StepV) (x : StepV) : pEnd s (l ++ [x]) = pS (pEnd s l) x := by simp [pEnd]
theorem pCnt_snoc (x : StepV) : ∀ (s : St) (l : List StepV), pCnt s (l ++ [x]) = pCnt s l + done0 (pE (pEnd s l) x)
  | s, [] => by simp [pCnt, pEnd]
  | s, y :: r => by
    simp only [List.cons_append, pCnt]
    rw [pCnt_snoc x (pS s y) r]
    simp only [pEnd, List.foldl_cons]; omega
theorem pCnt_le (l : List StepV) : ∀ s, pCnt s l ≤ l.length := by
  induction l with
  | nil => intro s; simp [pCnt]
  | cons x r ih => intro s; have := ih (pS s x); simp only [pCnt, List.length_cons, done0]; split <;> omega
theorem to_len (s : St) (fs : List (Key × File)) : (s.to fs).fs.length = fs.length := rfl
theorem pS_len (s : St) (x : StepV) : (pS s x).fs.length ≤ s.fs.length + 1 := by
  unfold pS mAppend mSync mRename mTrunc mDelete
  have h1 := fun (k : Key) (f : File) => length_aput k f s.fs
  have h2 := fun (k : Key) => length_adel k s.fs
  have h3 := fun (k k2 : Key) (f : File) => length_aput k2 f (adel k s.fs)
  split
  · split
    · rw [to_len]; exact h1 _ _
    · omega
  split
  · split
    · rw [to_len]; exact h1 _ _
    · omega
  split
  · split
    · rw [to_len]; have := h3 x.nm x.tg (s.at x.nm); have := h2 x.nm; omega
    · omega
  split
  · split
    · rw [to_len]; exact h1 _ _
    · omega
  split
  · split
    · rw [to_len]; have := h2 x.nm; omega
    · omega
  · omega
theorem pEnd_len (l : List StepV) : ∀ s, (pEnd s l).fs.length ≤ s.fs.length + l.length := by
  induction l with
  | nil => intro s; simp [pEnd]
  | cons x r ih => intro s; have := ih (pS s x); have := pS_len s x; simp only [pEnd, List.foldl_cons, List.length_cons] at *; omega

theorem lDel {w0 w : World} {d : Nat} {F : Nat → Prop} {s : St} (h : Live w0 w d F s) (hn : s.fs.length ≤ 1073741823) (k : ByteArray) (hk : k.size ≤ 281474976710656) :
    Calls Try.prog 18 #[dp d, .string k] w fun e w' => e = .returned (.int .i64 (s.err k.data.toList)) ∧ LPost w0 d F (mDelete s k.data.toList) w w' :=
  (delete_any h.disk hn k hk).mono fun e w' ⟨he, hP⟩ => ⟨he, live_post h hP⟩
theorem LPost.pre {w0 w w1 w2 : World} {d : Nat} {F : Nat → Prop} {s : St} (t : Touch (fun _ => False) w w1) (h : LPost w0 d F s w1 w2) : LPost w0 d F s w w2 := by
  obtain ⟨F', h1, hs⟩ := h
  exact ⟨F', h1, (Step.same t).trans hs⟩
theorem LPost.trans {w0 w w1 w2 : World} {d : Nat} {F F1 : Nat → Prop} {s : St} (hs : Step F F1 w w1) (h : LPost w0 d F1 s w1 w2) : LPost w0 d F s w w2 := by
  obtain ⟨F', h1, h2⟩ := h
  exact ⟨F', h1, hs.trans h2⟩
end Go.Proofs.Ytfmpbkdmcgkeoaa
