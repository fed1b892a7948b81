/- quirelaw4.both at two disks in one state. -/
import Derived.Test.YtfmpbkdmcgkeoaaPart9
import Derived.Test.YtfmpbkdmcgkeoaaKnown4
import Derived.Test.YtfmpbkdmcgkeoaaPart11
import Derived.Test.YtfmpbkdmcgkeoaaPart7
namespace Go.Proofs.Ytfmpbkdmcgkeoaa
open Go.RowKit Go.Maps Go.Sort
set_option linter.unusedVariables false

/-- The names of a state are short. -/
theorem Live.names_le {w0 w : World} {d : Nat} {F : Nat → Prop} {s : St} (h : Live w0 w d F s) : ∀ k ∈ mList s, k.length ≤ 281474976710656 := by
  obtain ⟨m, es, hC, hR, hfs, hF, hFl⟩ := h.disk
  intro k hk
  unfold mList at hk
  split at hk
  · cases hk
  · rw [hfs] at hk
    obtain ⟨p, hp, rfl⟩ := List.mem_map.1 hk
    obtain ⟨q, hq, rfl⟩ := List.mem_map.1 hp
    exact hC.keys q hq
theorem mList_len (s : St) : (mList s).length ≤ s.fs.length := by
  unfold mList; split <;> simp

/-- Read of both: the same bytes, the same error. -/
theorem lRead2 {w0 w : World} {d : Nat} {F : Nat → Prop} {s : St} (h : Live w0 w d F s) (hn : s.fs.length ≤ 1073741823) (k : ByteArray) (hk : k.size ≤ 281474976710656) :
    Calls Try.prog 20 #[dp d, .string k] w fun e w' => (∃ ao cap g, e = .returned (.tuple #[.slice ao (mRead s k.data.toList).length cap, .int .i64 (s.err k.data.toList)]) ∧ LF F w' g ao (mRead s k.data.toList) ∧ (ao = none → cap = 0)) ∧ Live w0 w' d F s ∧ Touch (fun _ => False) w w' := by
  refine (lRead h hn k hk).mono ?_
  rintro e w' ⟨⟨v, rfl, hrow⟩, h2, t⟩
  obtain ⟨ao, cap, g, rfl, hL, hno⟩ := h.read t.size hrow
  exact ⟨⟨ao, cap, g, rfl, hL, hno⟩, h2, t⟩

end Go.Proofs.Ytfmpbkdmcgkeoaa

/- The document's disk in its state: Read. -/
namespace Go.Proofs.Ytfmpbkdmcgkeoaa
open Go.RowKit Go.Maps
set_option linter.unusedVariables false

section
variable {w : World} {r : Nat} {G : Nat → Prop} {s : St}
set_option maxRecDepth 100000 in
set_option maxHeartbeats 800000 in
theorem rRead_any (h : RLive w r G s) (hr : Rising s.fs) (hn : s.fs.length ≤ 1073741823) (k : ByteArray) (hk : k.size ≤ 281474976710656) :
    Calls Try.prog 21 #[rp r, .string k] w fun e w' => ∃ bo cap g, e = .returned (.tuple #[.slice bo (mRead s k.data.toList).length cap, .int .i64 (s.err k.data.toList)]) ∧ Lies w' g bo (mRead s k.data.toList) ∧ Touch (fun _ => False) w w' := by
  obtain ⟨v, l, hC, hfs, hG, hGl⟩ := h
  have HD : Hid (Calls Try.prog 38 #[rp r] w fun e w' => e = .returned (.bool (decide (s.power = 0))) ∧ w' = w) := rDead_any hC
  have hll : l.length ≤ 1073741823 := by rw [hfs] at hn; simpa [absL] using hn
  have HAt : Hid (Calls Try.prog 40 #[rp r, .string k] w fun e w' => e = .returned (.tuple #[.int .i64 (ridx k.data.toList l : Int), .bool (ris k.data.toList l)]) ∧ Touch (fun _ => False) w w') := rat_any hC k hk (by omega)
  have hrA : Rising (absL l) := hfs ▸ hr
  have hris := ris_abs (k := k.data.toList) hrA
  by_cases hp : s.power = 0
  · have he : s.err k.data.toList = 43 := by unfold St.err; rw [if_pos hp]
    have hm : mRead s k.data.toList = [] := by unfold mRead; rw [he]; rfl
    rw [he, hm]
    rw [decide_eq_true hp] at HD
    clear hC hfs hG hGl HAt hris hrA hp he hr hn hm
    go_enter Try.func21, Try.ntmps21
    go_wp2_with fail
    refine HD.out.mono ?_
    rintro e w1 ⟨rfl, hw⟩
    rw [hw]; clear hw
    go_wp2_with fail
    exact bodyPost_ret (v := .tuple #[.slice none 0 0, .int .i64 43]) (by simp [results, Try.results21, go_sem]) rfl (by first | exact ⟨none, 0, 0, rfl, .inl rfl, Touch.refl _ _⟩ | exact ⟨none, 0, rfl, 0, .inl rfl, Touch.refl _ _⟩)
  · rw [decide_eq_false hp] at HD
    cases hb : ris k.data.toList l with
    | false =>
      have he : s.err k.data.toList = 40 := by unfold St.err; rw [if_neg hp, hfs, ← hris, hb]; rfl
      have hm : mRead s k.data.toList = [] := by unfold mRead; rw [he]; rfl
      rw [he, hm]
      rw [hb] at HAt
      generalize (ridx k.data.toList l : Int) = I at *
      clear hC hfs hG hGl hris hrA hp he hr hn hb hm
      go_enter Try.func21, Try.ntmps21
      go_wp2_with fail
      refine HD.out.mono ?_
      rintro e w1 ⟨rfl, hw⟩
      rw [hw]; clear hw
      go_wp2_with fail
      refine HAt.out.mono ?_
      rintro e w1 ⟨rfl, t⟩
      have HT : Hid (Touch (fun _ => False) w w1) := t
      clear t
      go_wp2_with fail
      exact bodyPost_ret (v := .tuple #[.slice none 0 0, .int .i64 40]) (by simp [results, Try.results21, go_sem]) rfl (by first | exact ⟨none, 0, 0, rfl, .inl rfl, HT.out⟩ | exact ⟨none, 0, rfl, 0, .inl rfl, HT.out⟩)
    | true =>
      have he : s.err k.data.toList = 0 := by unfold St.err; rw [if_neg hp, hfs, ← hris, hb]; rfl
      obtain ⟨hl, hget, hkey⟩ := get_abs hrA hb
      obtain ⟨x, hx⟩ : ∃ x, x = l[ridx k.data.toList l] := ⟨_, rfl⟩
      have hxl : x ∈ l := by rw [hx]; exact List.getElem_mem hl
      have hxo := hC.ok x hxl
      rw [← hx] at hget
      have hm : mRead s k.data.toList = x.bs := by unfold mRead St.at; rw [if_pos he, hfs, hget]; rfl
      rw [he, hm]
      rw [hb] at HAt
      have hne : l ≠ [] := by rintro rfl; simp at hl
      obtain ⟨g, cap, rfl, hgr, hgl, hlc, hcm, hcell⟩ := hC.row hne
      have HCell : Hid (∀ W, Touch (fun _ => False) w W → W.cell? ⟨r, 0, none⟩ = some (.slice (some ⟨g, 0, none⟩) l.length cap) ∧ W.cell? ⟨g, ridx k.data.toList l * 3 + 1, none⟩ = some (.slice x.bo x.bs.length x.cap) ∧ Hid (Lies W x.g x.bo x.bs)) := by
        intro W t
        obtain ⟨q0, q1, q2⟩ := hcell _ hl
        rw [← hx] at q1
        refine ⟨?_, ?_, hxo.lies.keep fun e => t.block _ (hxo.lies.lt e) id⟩
        · rw [World.cell?_of_block (t.block r (lt_of_heap hC.cells) id)]; exact hC.c0
        · rw [World.cell?_of_block (t.block g hgl id)]; exact q1
      obtain ⟨I, hI⟩ : ∃ I, I = ridx k.data.toList l := ⟨_, rfl⟩
      rw [← hI] at HAt HCell hl
      have hlI : (I : Int) < (l.length : Int) := by omega
      clear hC hfs hG hGl hris hrA hp he hr hn hb hget hkey hx hxl hne hcell hI hm hxo
      go_enter Try.func21, Try.ntmps21
      go_wp2_with fail
      refine HD.out.mono ?_
      rintro e w1 ⟨rfl, hw⟩
      rw [hw]; clear hw
      go_wp2_with fail
      refine HAt.out.mono ?_
      rintro e w1 ⟨rfl, t⟩
      obtain ⟨j0, j1, HL⟩ := HCell.out _ t
      have HT : Hid (Touch (fun _ => False) w w1) := t
      clear t HCell
      go_wp2_with fail
      exact bodyPost_ret (v := .tuple #[.slice x.bo x.bs.length x.cap, .int .i64 0]) (by simp [results, Try.results21, go_sem]) rfl (by first | exact ⟨x.bo, x.cap, x.g, rfl, HL.out, HT.out⟩ | exact ⟨x.bo, x.cap, rfl, x.g, HL.out, HT.out⟩ | exact ⟨x.bo, x.cap, rfl, ⟨x.g, HL.out⟩, HT.out⟩)
end
end Go.Proofs.Ytfmpbkdmcgkeoaa
