/- The contract of quirelaw4.known: the chapter's example. -/
import Derived.Test.YtfmpbkdmcgkeoaaLiveD
import Derived.Test.YtfmpbkdmcgkeoaaPart9
import Derived.Lib.SlBytesConst
namespace Go.Proofs.Ytfmpbkdmcgkeoaa
open Go.RowKit Go.Maps Go.Sort
set_option linter.unusedVariables false

def kA : ByteArray := ⟨#[97]⟩
def k1 : St := mAppend (newSt 10) [97] [120, 121]
def k2 : St := mSync k1 [97]
def k3 : St := mAppend k2 [97] [122]
def k4 : St := mAppend k3 [98] [0, 0, 0, 0, 0, 0, 0, 0]
def k5 : St := mCrash k4 []
def k6 : St := mRename k5 [97] [99]
def k7 : St := mTrunc k6 [99] 1
def k8 : St := mCut k7 0

set_option maxRecDepth 100000 in
set_option maxHeartbeats 3200000 in
theorem known_any (w : World) : Calls Try.prog 4 #[] w fun e w' => e = .returned (.bool true) ∧ Touch (fun _ => False) w w' := by
  have HN : Hid (Calls Try.prog 6 #[.int .i64 10] w fun e w' => ∃ d F, e = .returned (dp d) ∧ Live w w' d F (newSt 10)) := lNew 10 (by decide) w
  have kc := fun (w : World) (C : Array Value) (n c : Nat) => Lib.run_convert_bytes_const (P := Try.prog) w 29 5 C n c Try.underlying29 Try.underlying5
  have hmk : ∀ w : World, (Instr.makeSlice 29 (.int .i64 8) (.int .i64 8)).run Try.prog w = .ok (.slice (some ⟨w.heap.size, 0, none⟩) 8 8) (w.alloc (.cells #[.int .u8 0, .int .u8 0, .int .u8 0, .int .u8 0, .int .u8 0, .int .u8 0, .int .u8 0, .int .u8 0] 5)) := fun w => by kernel_rfl
  go_enter Try.func4, Try.ntmps4
  go_wp2_with fail
  refine HN.out.mono ?_
  rintro e w1 ⟨d, F1, rfl, h⟩
  have H1 : Hid (Calls Try.prog 9 #[dp d, .string ⟨#[97]⟩, .slice (some ⟨w1.heap.size, 0, none⟩) 2 2] (w1.alloc (.cells #[.int .u8 120, .int .u8 121] 5 (2, 3))) fun e w' => e = .returned (.int .i64 0) ∧ LPost w d F1 k1 (w1.alloc (.cells #[.int .u8 120, .int .u8 121] 5 (2, 3))) w') :=
    lAppend (h.touch ((Touch.refl _ w1).alloc _)) (by decide) ⟨#[97]⟩ (by decide) w1.heap.size _ [120, 121] 2 2 rfl (by intro h; cases h) (lies_new w1 [120, 121] _) (by decide)
  clear h HN
  go_wp2_with fail
  refine H1.out.mono ?_
  rintro e w2 ⟨rfl, F2, h, hS⟩
  have H2 : Hid (Calls Try.prog 12 #[dp d, .string ⟨#[97]⟩] w2 fun e w' => e = .returned (.int .i64 0) ∧ LPost w d F2 k2 w2 w') :=
    lSync h (by decide) ⟨#[97]⟩ (by decide)
  clear h hS H1
  go_wp2_with fail
  refine H2.out.mono ?_
  rintro e w3 ⟨rfl, F3, h, hS⟩
  have H3 : Hid (Calls Try.prog 9 #[dp d, .string ⟨#[97]⟩, .slice (some ⟨w3.heap.size, 0, none⟩) 1 1] (w3.alloc (.cells #[.int .u8 122] 5 (1, 2))) fun e w' => e = .returned (.int .i64 0) ∧ LPost w d F3 k3 (w3.alloc (.cells #[.int .u8 122] 5 (1, 2))) w') :=
    lAppend (h.touch ((Touch.refl _ w3).alloc _)) (by decide) ⟨#[97]⟩ (by decide) w3.heap.size _ [122] 1 1 rfl (by intro h; cases h) (lies_new w3 [122] _) (by decide)
  clear h hS H2
  go_wp2_with fail
  refine H3.out.mono ?_
  rintro e w4 ⟨rfl, F4, h, hS⟩
  have H4 : Hid (Calls Try.prog 9 #[dp d, .string ⟨#[98]⟩, .slice (some ⟨w4.heap.size, 0, none⟩) 8 8] (w4.alloc (.cells #[.int .u8 0, .int .u8 0, .int .u8 0, .int .u8 0, .int .u8 0, .int .u8 0, .int .u8 0, .int .u8 0] 5)) fun e w' => e = .returned (.int .i64 42) ∧ LPost w d F4 k4 (w4.alloc (.cells #[.int .u8 0, .int .u8 0, .int .u8 0, .int .u8 0, .int .u8 0, .int .u8 0, .int .u8 0, .int .u8 0] 5)) w') :=
    lAppend (h.touch ((Touch.refl _ w4).alloc _)) (by decide) ⟨#[98]⟩ (by decide) w4.heap.size _ [0, 0, 0, 0, 0, 0, 0, 0] 8 8 rfl (by intro h; cases h) (lies_new w4 [0, 0, 0, 0, 0, 0, 0, 0] _) (by decide)
  clear h hS H3
  go_wp2_with fail
  refine H4.out.mono ?_
  rintro e w5 ⟨rfl, F5, h, hS⟩
  have H5 : Hid (Calls Try.prog 27 #[dp d, .slice none 0 0] w5 fun e w' => e = .returned (.tuple #[]) ∧ LPost w d F5 k5 w5 w') :=
    lCrash h (by decide) 0 none [] 0 0 rfl (.inl rfl) (by intro x hx; cases hx) (fun h => absurd rfl h) (by decide)
  clear h hS H4
  go_wp2_with fail
  refine H5.out.mono ?_
  rintro e w6 ⟨rfl, F6, h, hS⟩
  have H6 : Hid (Calls Try.prog 20 #[dp d, .string ⟨#[97]⟩] w6 fun e w' => (∃ v, e = .returned (.tuple #[v, .int .i64 0]) ∧ w'.ownsRow w6.heap.size 5 1 v 2 (cellsOf [120, 121])) ∧ Live w w' d F6 k5 ∧ Touch (fun _ => False) w6 w') :=
    lRead h (by decide) ⟨#[97]⟩ (by decide)
  have HL6 : Hid (Live w w6 d F6 k5) := h
  clear h hS H5
  go_wp2_with fail
  refine H6.out.mono ?_
  rintro e w7 ⟨⟨v, rfl, hrow⟩, h, hT7⟩
  obtain ⟨bo, bc, bg, rfl, hB, _⟩ := HL6.out.read (bs := [120, 121]) hT7.size hrow
  have HB : Hid (LF F6 w7 bg bo [120, 121]) := hB
  clear hB hrow hT7 HL6 H6
  have H7 : Hid (Calls Try.prog 14 #[dp d, .string ⟨#[97]⟩, .string ⟨#[99]⟩] w7 fun e w' => e = .returned (.int .i64 0) ∧ LPost w d F6 k6 w7 w') :=
    lRename h (by decide) ⟨#[97]⟩ (by decide) ⟨#[99]⟩ (by decide)
  clear h
  go_wp2_with fail
  refine H7.out.mono ?_
  rintro e w8 ⟨rfl, F8, h, hS⟩
  have HB8 : Hid (LF F8 w8 bg bo [120, 121]) := HB.out.step hS
  have H8 : Hid (Calls Try.prog 16 #[dp d, .string ⟨#[99]⟩, .int .i64 1] w8 fun e w' => e = .returned (.int .i64 0) ∧ LPost w d F8 k7 w8 w') :=
    lTrunc h (by decide) ⟨#[99]⟩ (by decide) 1 (by decide)
  clear h hS H7 HB
  go_wp2_with fail
  refine H8.out.mono ?_
  rintro e w9 ⟨rfl, F9, h, hS⟩
  have HB9 : Hid (LF F9 w9 bg bo [120, 121]) := HB8.out.step hS
  have H9 : Hid (Calls Try.prog 32 #[dp d] w9 fun e w' => NamesPost [[99]] w9 e w' ∧ Live w w' d F9 k7) := lList h (by decide)
  have HL9 : Hid (Live w w9 d F9 k7) := h
  clear h hS H8 HB8
  go_wp2_with fail
  refine H9.out.mono ?_
  rintro e wa ⟨⟨v, rfl, hrow, hTa⟩, h⟩
  obtain ⟨gl, cl, rfl, hfl, hcl⟩ : ∃ gl cl, v = .slice (some ⟨gl, 0, none⟩) 1 cl ∧ Free F9 wa gl ∧ wa.cell? ⟨gl, 0, none⟩ = some (.string ⟨#[99]⟩) := by
    rcases hrow.2 with ⟨_, h0⟩ | ⟨gl, c, cur, e, hb, hg, h1, h2, h3, h4⟩
    · simp at h0
    · refine ⟨gl, c, e, HL9.out.free hTa.size hb (lt_of_heap hg), ?_⟩
      rw [cell_of_block hg]
      have h5 : ([[99]].map Go.Proofs.encStr)[0]? = some (Value.string ⟨#[99]⟩) := rfl
      rw [← h4, List.getElem?_take] at h5
      rw [if_pos (by decide)] at h5
      rw [← h5, Array.getElem?_toList]
  have HBa : Hid (LF F9 wa bg bo [120, 121]) := HB9.out.touch hTa
  have HF : Hid (Free F9 wa gl ∧ wa.cell? ⟨gl, 0, none⟩ = some (.string ⟨#[99]⟩)) := ⟨hfl, hcl⟩
  clear hrow hTa HL9 HB9 H9 hfl hcl
  have Ha : Hid (Calls Try.prog 25 #[dp d, .int .i64 0] wa fun e w' => e = .returned (.tuple #[]) ∧ LPost w d F9 k8 wa w') :=
    lCut h 0 (by decide)
  clear h
  go_wp2_with fail
  refine Ha.out.mono ?_
  rintro e wb ⟨rfl, Fb, h, hS⟩
  have kb := lies_string (HBa.out.step hS).lies 2 bc rfl
  have kl : wb.cell? ⟨gl, 0, none⟩ = some (.string ⟨#[99]⟩) := (World.cell?_of_block (a := ⟨gl, 0, none⟩) (HF.out.1.same hS)).trans HF.out.2
  have Hb : Hid (Calls Try.prog 33 #[dp d] wb fun e w' => e = .returned (.int .i64 1) ∧ w' = wb) := lUsed h
  have Hc : Hid (Calls Try.prog 12 #[dp d, .string ⟨#[99]⟩] wb fun e w' => e = .returned (.int .i64 43) ∧ LPost w d Fb k8 wb w') := lSync h (by decide) ⟨#[99]⟩ (by decide)
  clear h hS Ha HBa HF
  go_wp2_with fail
  refine Hb.out.mono ?_
  rintro e wc ⟨rfl, hw⟩
  rw [hw]; clear hw Hb
  go_wp2_with fail
  refine Hc.out.mono ?_
  rintro e wd ⟨rfl, Fd, h, hS⟩
  have Hd : Hid (Calls Try.prog 34 #[dp d] wd fun e w' => e = .returned (.bool true) ∧ w' = wd) := lDead h
  have HZ : Hid (Touch (fun _ => False) w wd) := h.since
  clear h hS Hc
  go_wp2_with fail
  refine Hd.out.mono ?_
  rintro e we ⟨rfl, hw⟩
  rw [hw]; clear hw Hd
  go_wp2_with fail
  go_ret
  exact ⟨rfl, HZ.out⟩
end Go.Proofs.Ytfmpbkdmcgkeoaa
