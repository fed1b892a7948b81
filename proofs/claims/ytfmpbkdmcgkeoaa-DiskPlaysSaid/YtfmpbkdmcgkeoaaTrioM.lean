/- Two disks side by side, and blocks that are none of theirs. -/
import Derived.Test.YtfmpbkdmcgkeoaaPart10
import Derived.Test.YtfmpbkdmcgkeoaaPart11
import Derived.Test.YtfmpbkdmcgkeoaaRefM
namespace Go.Proofs.Ytfmpbkdmcgkeoaa
open Go.RowKit Go.Maps
set_option linter.unusedVariables false

structure Trio (wb wx : World) (X : Nat → Prop) (w : World) (d r : Nat) (F G : Nat → Prop) (s s2 : St) : Prop where
  duo : Duo wb w d r F G s s2
  lt : ∀ k, X k → k < w.heap.size
  xF : ∀ k, X k → ¬ F k
  xG : ∀ k, X k → ¬ G k
  same : ∀ k, X k → w.heap[k]? = wx.heap[k]?
section
variable {wb wx w w' : World} {X F G : Nat → Prop} {d r : Nat} {s s2 s' : St}
theorem Trio.start (h : Duo wb w d r F G s s2) (hX : ∀ k, X k → k < w.heap.size ∧ ¬ F k ∧ ¬ G k) : Trio wb w X w d r F G s s2 :=
  ⟨h, fun k hk => (hX k hk).1, fun k hk => (hX k hk).2.1, fun k hk => (hX k hk).2.2, fun _ _ => rfl⟩
theorem Trio.touch (h : Trio wb wx X w d r F G s s2) (t : Touch (fun _ => False) w w') : Trio wb wx X w' d r F G s s2 :=
  ⟨h.duo.touch t, fun k hk => Nat.lt_of_lt_of_le (h.lt k hk) t.size, h.xF, h.xG, fun k hk => (t.block k (h.lt k hk) id).trans (h.same k hk)⟩
theorem Trio.fst (h : Trio wb wx X w d r F G s s2) (hP : LPost wb d F s' w w') : ∃ F', Trio wb wx X w' d r F' G s' s2 := by
  obtain ⟨F', hl, hs⟩ := hP
  refine ⟨F', ⟨hl, h.duo.ref.keep hs.touch fun k hk hf => h.duo.apart k hf hk, h.duo.new, fun k hk hg => h.duo.apart k (hs.foot k (h.duo.ref.lt hg) hk) hg⟩, fun k hk => Nat.lt_of_lt_of_le (h.lt k hk) hs.touch.size, fun k hk hf => h.xF k hk (hs.foot k (h.lt k hk) hf), h.xG, fun k hk => (hs.touch.block k (h.lt k hk) (h.xF k hk)).trans (h.same k hk)⟩
theorem Trio.snd (h : Trio wb wx X w d r F G s s2) (hP : RPost r G s' w w') : ∃ G', Trio wb wx X w' d r F G' s s' := by
  obtain ⟨G', hl, t, hg⟩ := id hP
  have hrF : ¬ F r := fun hf => h.duo.apart r hf h.duo.ref.own
  refine ⟨G', ⟨⟨h.duo.live.disk.touch t fun k hk e => hrF (e ▸ hk), h.duo.live.since.then t fun k hk e => ?_, h.duo.live.new⟩, hl, fun k hk => ?_, fun k hk hg' => h.duo.apart k hk (hg k (h.duo.live.disk.lt hk) hg')⟩, fun k hk => Nat.lt_of_lt_of_le (h.lt k hk) t.size, h.xF, fun k hk hg' => h.xG k hk (hg k (h.lt k hk) hg'), fun k hk => (t.block k (h.lt k hk) fun e => h.xG k hk (e ▸ h.duo.ref.own)).trans (h.same k hk)⟩
  · have := h.duo.new r h.duo.ref.own
    omega
  · rcases Nat.lt_or_ge k w.heap.size with x | x
    · exact h.duo.new k (hg k x hk)
    · exact Nat.le_trans h.duo.live.since.size x
/-- What turns nothing but such blocks. -/
theorem Trio.spoil {S : Nat → Prop} (h : Trio wb wx X w d r F G s s2) (t : Touch S w w') (hS : ∀ k, S k → X k) (hb : ∀ k, S k → wb.heap.size ≤ k) : Duo wb w' d r F G s s2 :=
  ⟨⟨h.duo.live.disk.touch t fun k hk hs => h.xF k (hS k hs) hk, h.duo.live.since.then t fun k hk hs => absurd hk (Nat.not_lt.2 (hb k hs)), h.duo.live.new⟩, h.duo.ref.keep t fun k hk hs => h.xG k (hS k hs) hk, h.duo.new, h.duo.apart⟩
theorem Duo.fresh (h : Duo wb w d r F G s s2) {k : Nat} (hk : w.heap.size ≤ k) : ¬ F k ∧ ¬ G k :=
  ⟨fun x => Nat.lt_irrefl k (Nat.lt_of_lt_of_le (h.live.disk.lt x) hk), fun x => Nat.lt_irrefl k (Nat.lt_of_lt_of_le (h.ref.lt x) hk)⟩
theorem RLive.lens (h : RLive w r G s) : ∀ p ∈ s.fs, p.2.1.length ≤ 9223372036854775807 := by
  obtain ⟨v, l, hC, hfs, _⟩ := h
  intro p hp
  rw [hfs] at hp
  obtain ⟨f, hf, rfl⟩ := List.mem_map.1 hp
  have := (hC.ok f hf).len
  show f.bs.length ≤ _
  omega
/-- A copy of each. -/
theorem Duo.copied {wa wc w3 w4 : World} {c c2 : Nat} {C F3 H : Nat → Prop} (h : Duo wb wa d r F G s s) (hc : Live wa wc c C s) (t3 : Touch F wc w3) (hH : RCopied w3 w4 r c2 G H s) : Duo wb w4 c c2 C H s s := by
  obtain ⟨hR, t4, hHG⟩ := hH
  have cF : ∀ k, C k → ¬ F k := fun k hk hf => by
    have := hc.new k hk
    have := h.live.disk.lt hf
    omega
  have d3 : Live wb w3 c C s := ⟨hc.disk.touch t3 cF, (h.live.since.trans hc.since).then t3 fun k hk hf => by have := h.live.new k hf; omega, fun k hk => Nat.le_trans h.live.since.size (hc.new k hk)⟩
  refine ⟨d3.touch t4, hR, fun k hk => ?_, fun k hk hH => ?_⟩
  · rcases Nat.lt_or_ge k w3.heap.size with x | x
    · exact h.new k (hHG k x hk)
    · exact Nat.le_trans d3.since.size x
  · have hg := hHG k (Nat.lt_of_lt_of_le (hc.disk.lt hk) t3.size) hH
    have := h.ref.lt hg
    have := hc.new k hk
    omega
end
theorem mAppend_len (s : St) (k : Key) (b : List UInt8) : (mAppend s k b).fs.length ≤ s.fs.length + 1 := by
  unfold mAppend; split
  · rw [to_len]; exact length_aput _ _ _
  · omega
theorem mSync_len (s : St) (k : Key) : (mSync s k).fs.length ≤ s.fs.length + 1 := by
  unfold mSync; split
  · rw [to_len]; exact length_aput _ _ _
  · omega
theorem mTrunc_len (s : St) (k : Key) (n : Int) : (mTrunc s k n).fs.length ≤ s.fs.length + 1 := by
  unfold mTrunc; split
  · rw [to_len]; exact length_aput _ _ _
  · omega
theorem mDelete_len (s : St) (k : Key) : (mDelete s k).fs.length ≤ s.fs.length + 1 := by
  unfold mDelete; split
  · rw [to_len]; have := length_adel k s.fs; omega
  · omega
theorem mRename_len (s : St) (k k2 : Key) : (mRename s k k2).fs.length ≤ s.fs.length + 1 := by
  unfold mRename; split
  · rw [to_len]; have := length_aput k2 (s.at k) (adel k s.fs); have := length_adel k s.fs; omega
  · omega
theorem mRoom_len (s : St) (n : Int) : (mRoom s n).fs.length ≤ s.fs.length + 1 := by show s.fs.length ≤ _; omega
theorem mCut_len (s : St) (n : Int) : (mCut s n).fs.length ≤ s.fs.length + 1 := by show s.fs.length ≤ _; omega
theorem mCrash_len (s : St) (keep : List Int) : (mCrash s keep).fs.length ≤ s.fs.length + 1 := by
  show (crashAll keep 0 s.fs).length ≤ _
  rw [crashAll_length]; omega
end Go.Proofs.Ytfmpbkdmcgkeoaa
