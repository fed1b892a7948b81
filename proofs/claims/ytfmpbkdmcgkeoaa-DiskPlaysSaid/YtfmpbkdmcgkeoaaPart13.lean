/- The document's Append, in full. -/
import Derived.Test.YtfmpbkdmcgkeoaaRefZ
import Derived.Test.YtfmpbkdmcgkeoaaRefM
import Derived.Test.YtfmpbkdmcgkeoaaCrashL
namespace Go.Proofs.Ytfmpbkdmcgkeoaa
open Go.RowKit Go.Maps
set_option linter.unusedVariables false
set_option linter.unusedSimpArgs false

set_option maxRecDepth 100000 in
set_option maxHeartbeats 800000 in
theorem rappend_any {w : World} {r : Nat} {G : Nat → Prop} {s : St} (h : RLive w r G s) (hr : Rising s.fs) (hn : s.fs.length ≤ 1073741823) (k : ByteArray) (hk : k.size ≤ 281474976710656) (gb : Nat) (ao : Option Addr) (b : List UInt8) (nb cp : Nat) (hnb : nb = b.length) (hbno : ao = none → cp = 0) (hL : Lies w gb ao b) (hbl : b.length ≤ 140737488355328) :
    Calls Try.prog 10 #[rp r, .string k, .slice ao nb cp] w fun e w' => e = .returned (.int .i64 (appE s k.data.toList b)) ∧ RPost r G (mAppend s k.data.toList b) w w' := by
  have hnot : ∀ (x : Bool) (w : World), (Op.unary .not (.bool x)).run Try.prog w = .ok (.bool (!x)) w := fun _ _ => rfl
  have HSame : Hid (appE s k.data.toList b ≠ 0 → RPost r G (mAppend s k.data.toList b) w w) := by
    intro e
    obtain ⟨v, l, hC, hfs, hG, hGl⟩ := h
    unfold mAppend
    rw [if_neg e]
    exact rpost_of hG hC hfs (Touch.refl _ _) (fun _ e => .inl e) (fun f hf hb _ => ⟨f, hf, hb, rfl⟩)
  by_cases hp : s.power = 0
  · have he : appE s k.data.toList b = 43 := by unfold appE; rw [if_pos hp]
    have HZ : Hid (RPost r G (mAppend s k.data.toList b) w w) := HSame.out (by rw [he]; decide)
    have HD : Hid (Calls Try.prog 38 #[rp r] w fun e w' => e = .returned (.bool true) ∧ w' = w) := by
      have := h.dead; rwa [decide_eq_true hp] at this
    rw [he]
    clear he hp HSame h hr hL
    go_enter Try.func10, Try.ntmps10
    go_wp2_with fail
    refine HD.out.mono ?_
    rintro e w1 ⟨rfl, hw⟩
    rw [hw]; clear hw
    go_wp2_with fail
    go_ret
    exact ⟨rfl, HZ.out⟩
  cases hnm : isNm k.data.toList with
  | true => exact rapp_true h hr hn k hk hp hnm gb ao b nb cp hnb hbl hL hbno
  | false =>
    have he : appE s k.data.toList b = 41 := by unfold appE; rw [if_neg hp, if_pos hnm]
    have HZ : Hid (RPost r G (mAppend s k.data.toList b) w w) := HSame.out (by rw [he]; decide)
    have HD : Hid (Calls Try.prog 38 #[rp r] w fun e w' => e = .returned (.bool false) ∧ w' = w) := by
      have := h.dead; rwa [decide_eq_false hp] at this
    have HNm : Hid (Calls Try.prog 39 #[.string k] w fun e w' => e = .returned (.bool false) ∧ w' = w) := by
      have := named_any k w (by unfold maxLen; omega); rwa [hnm] at this
    rw [he]
    clear he hp HSame h hr hL hnm
    go_enter Try.func10, Try.ntmps10
    go_wp2_with fail
    refine HD.out.mono ?_
    rintro e w1 ⟨rfl, hw⟩
    rw [hw]; clear hw
    go_wp2_with fail
    refine HNm.out.mono ?_
    rintro e w1 ⟨rfl, hw⟩
    rw [hw]; clear hw
    go_wp2_with fail
    go_ret
    exact ⟨rfl, HZ.out⟩
end Go.Proofs.Ytfmpbkdmcgkeoaa

/- The document's Crash, as lists. It speaks of no program. -/
namespace Go.Proofs.Ytfmpbkdmcgkeoaa
open Go.RowKit Go.Maps
set_option linter.unusedVariables false

def rcrF (keep : List Int) (i : Nat) (f : RFl) : RFl := ⟨f.name, f.bo, f.cap, f.g, f.bs.take (stay keep i (f.bs, f.syn)), stay keep i (f.bs, f.syn)⟩
def rcrL (keep : List Int) (l : List RFl) : List RFl := l.mapIdx (rcrF keep)
theorem rcrL_len (keep : List Int) (l : List RFl) : (rcrL keep l).length = l.length := by simp [rcrL]
theorem rcrL_snoc (keep : List Int) (l : List RFl) {k : Nat} (h : k < l.length) : rcrL keep (l.take (k + 1)) = rcrL keep (l.take k) ++ [rcrF keep k l[k]] := by
  unfold rcrL
  rw [List.take_succ_eq_append_getElem h, List.mapIdx_append]
  simp only [List.mapIdx_cons, List.mapIdx_nil, List.length_take]
  rw [Nat.min_eq_left (by omega), Nat.zero_add]
theorem rcrL_abs (keep : List Int) (l : List RFl) : ∀ k, k ≤ l.length → absL (rcrL keep (l.take k)) = crashAll keep 0 (absL (l.take k))
  | 0, _ => by simp [rcrL, absL, crashAll]
  | k + 1, h => by
    rw [rcrL_snoc keep l (by omega)]
    have e1 : absL (l.take (k + 1)) = absL (l.take k) ++ [l[k].abs] := by
      unfold absL; rw [List.take_succ_eq_append_getElem (by omega), List.map_append]; rfl
    rw [e1, crashAll_snoc, ← rcrL_abs keep l k (by omega)]
    have e2 : (absL (l.take k)).length = k := by simp [absL]; omega
    rw [e2, Nat.zero_add]
    unfold absL
    rw [List.map_append]
    rfl
theorem mem_rcrL {keep : List Int} {l : List RFl} {x : RFl} (h : x ∈ rcrL keep l) : ∃ i f, f ∈ l ∧ x = rcrF keep i f := by
  unfold rcrL at h
  rw [List.mem_mapIdx] at h
  obtain ⟨i, hi, rfl⟩ := h
  exact ⟨i, l[i], List.getElem_mem hi, rfl⟩
theorem stay_le (keep : List Int) (i : Nat) (bs : List UInt8) (n : Nat) (h : n ≤ bs.length) : n ≤ stay keep i (bs, n) ∧ stay keep i (bs, n) ≤ bs.length := by
  unfold stay; split <;> simp only <;> omega
theorem rcrF_ok {w : World} {r : Nat} {f : RFl} (h : RFOk w r f) (keep : List Int) (i : Nat) : RFOk w r (rcrF keep i f) := by
  have hs := stay_le keep i f.bs f.syn h.syn
  have hl : (f.bs.take (stay keep i (f.bs, f.syn))).length = stay keep i (f.bs, f.syn) := by simp; omega
  have hne : f.bs.take (stay keep i (f.bs, f.syn)) ≠ [] → f.bs ≠ [] := fun e e2 => e (by rw [e2]; simp)
  refine ⟨h.lies.take _, fun e => h.off (hne e), h.none, ?_, h.cap, ?_, ?_, h.name⟩
  · show (f.bs.take _).length ≤ f.cap
    have := h.le; rw [hl]; omega
  · show stay keep i (f.bs, f.syn) ≤ (f.bs.take _).length
    rw [hl]; exact Nat.le_refl _
  · show (f.bs.take _).length ≤ 4194304
    have := h.len; rw [hl]; omega
end Go.Proofs.Ytfmpbkdmcgkeoaa
