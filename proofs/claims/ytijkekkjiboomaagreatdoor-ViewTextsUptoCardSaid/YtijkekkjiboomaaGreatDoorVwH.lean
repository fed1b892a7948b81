/- Views: backward. -/
import Derived.Test.YtijkekkjiboomaaGreatDoorVwG
import Derived.Laws.IdiomStrings
namespace Go.Proofs.YtijkekkjiboomaaGreatDoor
open Go.RowKit Go.Maps
set_option linter.unusedVariables false
set_option linter.unusedSimpArgs false
set_option maxRecDepth 100000

/-- A text's runes, as the conversion lays them. -/
theorem runesFrom_of (s : ByteArray) : ∀ (n pos : Nat) (rs : List Nat) (acc : Array Value), s.size - pos ≤ n → pos ≤ s.size → runesOf (s.data.toList.drop pos) = some rs → Conv.runesFrom s n pos acc = acc ++ (rs.map fun r : Nat => (.int .i32 (r : Int) : Value)).toArray
  | 0, pos, rs, acc, h, hp, hr => by
    have hsl : s.data.toList.length = s.size := by simp
    rw [List.drop_eq_nil_of_le (by omega), runesOf_nil] at hr
    cases hr
    simp [Conv.runesFrom]
  | n + 1, pos, rs, acc, h, hp, hr => by
    have hsl : s.data.toList.length = s.size := by simp
    unfold Conv.runesFrom
    by_cases hlt : pos < s.size
    · rw [if_pos hlt]
      have hne : s.data.toList.drop pos ≠ [] := by intro e; have := congrArg List.length e; rw [List.length_drop, hsl, List.length_nil] at this; omega
      rw [runesOf_step hne] at hr
      by_cases hz : (nxt (s.data.toList.drop pos)).2 = 0
      · rw [if_pos hz] at hr; simp at hr
      rw [if_neg hz, (nxt_dec _ hz).1, Go.Lib.decodeL_drop, Option.map_eq_some_iff] at hr
      obtain ⟨rest', hr', he'⟩ := hr
      have hle := (nxt_le (s.data.toList.drop pos)).resolve_right hne
      rw [(nxt_dec _ hz).1, Go.Lib.decodeL_drop, List.length_drop, hsl] at hle
      rw [(nxt_dec _ hz).1, Go.Lib.decodeL_drop] at hz
      subst he'
      rw [List.drop_drop] at hr'
      have := runesFrom_of s n (pos + (Utf8.decode s pos).2) rest' (acc.push (.int .i32 (Int.ofNat (Utf8.decode s pos).1))) (by omega) (by omega) hr'
      show Conv.runesFrom s n (pos + (Utf8.decode s pos).2) (acc.push (.int .i32 (Int.ofNat (Utf8.decode s pos).1))) = _
      rw [this]
      simp
    · rw [if_neg hlt]
      rw [List.drop_eq_nil_of_le (by omega), runesOf_nil] at hr
      cases hr
      simp
/-- Where they lie. -/
theorem runes_conv (s : ByteArray) (rs : List Nat) (hr : runesOf s.data.toList = some rs) (hs : s.size ≤ 1048576) (w : World) : ∃ cap W', (convert 9 72 (.string s)).run Tryz.prog w = .ok (.slice (some ⟨w.heap.size, 0, none⟩) rs.length cap) W' ∧ RnAt W' w.heap.size rs.length (fun j => ((rs.getD j 0 : Nat) : Int)) ∧ Touch (fun _ => False) w W' := by
  have he := runesFrom_of s s.size 0 rs #[] (by omega) (by omega) (by simpa using hr)
  have hsz : (Conv.runesFrom s s.size 0 #[]).size = rs.length := by rw [he]; simp
  have hln : rs.length ≤ 1048576 := by have := size_runesFrom s s.size 0 #[]; rw [hsz] at this; simp at this; omega
  have h1 := run_runes_of_string (P := Tryz.prog) w 9 72 21 s Tryz.underlying9 Tryz.underlying72 Tryz.underlying21 (by rw [hsz]; omega)
  rw [hsz] at h1
  refine ⟨_, _, h1, fun j hj => ?_, (Touch.refl _ w).drew.alloc _⟩
  have hal : (w.drew.alloc (.cells (Conv.runesFrom s s.size 0 #[] ++ Array.replicate (grownCap w rs.length 0 21 - rs.length) (.int .i32 0)) 21)).heap[w.heap.size]? = some (.cells (Conv.runesFrom s s.size 0 #[] ++ Array.replicate (grownCap w rs.length 0 21 - rs.length) (.int .i32 0)) 21) := heap_alloc_new _ _
  refine ⟨?_, free_of_block hal⟩
  rw [cell_of_block hal, he]
  simp only [Array.empty_append]
  rw [Array.getElem?_append_left (by simpa using hj)]
  simp [hj, List.getD]
/-- The one cell of a text. -/
def Rw.withT (r : Rw) (t : ByteArray) : Rw := { r with tx := t }
theorem RwAt.setT {W : World} {g n : Nat} {f : Nat → Rw} (h : RwAt W g n f) (i : Nat) (hi : i < n) (t : ByteArray) : RwAt (W.setCell ⟨g, i * 7, none⟩ (.string t)) g n (fun j => if j = i then (f i).withT t else f j) := by
  intro j hj
  simp only [frozen_set]
  obtain ⟨a0, b0, a1, b1, a2, b2, a3, b3, a4, b4, a5, b5, a6, b6⟩ := h j hj
  rw [cell_set_ne W g (i * 7) (j * 7 + 1) _ (by omega), cell_set_ne W g (i * 7) (j * 7 + 2) _ (by omega), cell_set_ne W g (i * 7) (j * 7 + 3) _ (by omega), cell_set_ne W g (i * 7) (j * 7 + 4) _ (by omega), cell_set_ne W g (i * 7) (j * 7 + 5) _ (by omega), cell_set_ne W g (i * 7) (j * 7 + 6) _ (by omega)]
  by_cases e : j = i
  · subst e
    simp only [if_true]
    exact ⟨World.cell?_setCell_same _ _ _ a0, b0, a1, b1, a2, b2, a3, b3, a4, b4, a5, b5, a6, b6⟩
  · simp only [if_neg e]
    rw [cell_set_ne W g (i * 7) (j * 7) _ (by omega)]
    exact ⟨a0, b0, a1, b1, a2, b2, a3, b3, a4, b4, a5, b5, a6, b6⟩
theorem RwAt.touch {S : Nat → Prop} {W W' : World} {g n : Nat} {f : Nat → Rw} (h : RwAt W g n f) (t : Touch S W W') (hs : ¬ S g) : RwAt W' g n f := fun j hj => by
  have hlt : g < W.heap.size := World.block_lt_of_cell? _ _ (h j hj).1
  have hc : ∀ k, W'.cell? ⟨g, k, none⟩ = W.cell? ⟨g, k, none⟩ := fun k => t.cell hlt hs k
  have hf : ∀ k, W'.frozen? ⟨g, k, none⟩ = W.frozen? ⟨g, k, none⟩ := fun k => by
    have hb := t.block g hlt hs
    unfold World.frozen?
    simp only [hb]
  simp only [hc, hf]
  exact h j hj
/-- The block of one's own rows. -/
theorem NewW.at {W w : World} {g cap : Nat} {l : List Rw} (h : NewW W w (.slice (some ⟨g, 0, none⟩) l.length cap) l) : RwAt w g l.length (fun j => l.getD j default) := fun j hj => by
  have hne : l ≠ [] := fun e => by rw [e] at hj; simp at hj
  obtain ⟨b, o, cap', e, -, -, -, hc⟩ := h.sl.row hne
  simp only [Value.slice.injEq, Option.some.injEq, Addr.mk.injEq] at e
  obtain ⟨⟨rfl, rfl, -⟩, -, rfl⟩ := e
  have hf := fun i => h.free rfl (by omega) i
  have := hc j hj
  simp only [Nat.zero_add] at this
  have hgd : (fun j => l.getD j default) j = l[j] := by simp [List.getD, hj]
  simp only [hgd]
  exact ⟨this.1, hf _, this.2.1, hf _, this.2.2.1, hf _, this.2.2.2.1, hf _, this.2.2.2.2.1, hf _, this.2.2.2.2.2.1, hf _, this.2.2.2.2.2.2, hf _⟩
/-- A block of rows is a slice. -/
theorem RwAt.sl {W : World} {g cap : Nat} {f : Nat → Rw} {l : List Rw} (h : RwAt W g l.length f) (e : ∀ j (hj : j < l.length), f j = l[j]) (h1 : l.length ≤ cap) (h2 : cap ≤ 9223372036854775807) : SlW W (.slice (some ⟨g, 0, none⟩) l.length cap) l := by
  refine ⟨_, _, rfl, (fun h => by cases h), h1, h2, .inr ⟨g, 0, rfl, fun k u hu => ?_⟩⟩
  have hk : k < l.length * 7 := by
    rw [← cellsW_len]
    exact (List.getElem?_eq_some_iff.1 hu).1
  have hq : k / 7 < l.length := by omega
  obtain ⟨a0, -, a1, -, a2, -, a3, -, a4, -, a5, -, a6, -⟩ := h (k / 7) hq
  obtain ⟨c0, c1, c2, c3, c4, c5, c6⟩ := cellsW_get l (k / 7) hq
  rw [e _ hq] at a0 a1 a2 a3 a4 a5 a6
  rw [Nat.zero_add]
  have hm : k = k / 7 * 7 ∨ k = k / 7 * 7 + 1 ∨ k = k / 7 * 7 + 2 ∨ k = k / 7 * 7 + 3 ∨ k = k / 7 * 7 + 4 ∨ k = k / 7 * 7 + 5 ∨ k = k / 7 * 7 + 6 := by omega
  rcases hm with q | q | q | q | q | q | q <;> rw [q] at hu ⊢
  · rw [c0] at hu; cases hu; exact a0
  · rw [c1] at hu; cases hu; exact a1
  · rw [c2] at hu; cases hu; exact a2
  · rw [c3] at hu; cases hu; exact a3
  · rw [c4] at hu; cases hu; exact a4
  · rw [c5] at hu; cases hu; exact a5
  · rw [c6] at hu; cases hu; exact a6
set_option maxHeartbeats 2000000 in
theorem revW_nil (w : World) : Calls Tryz.prog 73 #[.slice none 0 0] w fun e w' => e = .returned (.tuple #[]) ∧ Touch (fun _ => False) w w' := by
  have HT : Hid (Touch (fun _ => False) w w) := Touch.refl _ _
  go_enter Tryz.func73, Tryz.ntmps73
  go_wp2_with fail
  go_loopg [2, 3] 0 (fun gk s2 s3 wr => s2 = .int .i64 0 ∧ s3 = .int .i64 (-1) ∧ Hid (Touch (fun _ => False) w wr))
  case atStart => exact ⟨rfl, rfl, HT.out⟩
  case round =>
    obtain ⟨rfl, rfl, HI⟩ := hrel
    have hd : ¬ (0 : Int) < -1 := by omega
    go_wp2_with fail
    go_end0
    exact ⟨rfl, HI.out⟩
/-- A run turned about, as it lies. -/
def bwT (r : Rw) : Rw := r.withT (strOf (encAll (rsOf r.tx.data.toList).reverse))
theorem AllMt.of {w : World} : ∀ {raw : List Rw} {L : List Rn}, raw.length = L.length → (∀ i (h1 : i < raw.length) (h2 : i < L.length), MtR w raw[i] L[i]) → AllMt w raw L
  | [], [], _, _ => trivial
  | r :: raw, x :: L, e, h => ⟨h 0 (by simp) (by simp), AllMt.of (by simpa using e) fun i h1 h2 => h (i + 1) (by simpa using h1) (by simpa using h2)⟩
theorem MtR.bw {w : World} {r : Rw} {x : Rn} (h : MtR w r x) : MtR w (bwT r) (bwR x) := ⟨by show strOf _ = strOf _; rw [h.tx], h.em, h.v, h.ml⟩
theorem AllMt.bw {w : World} {raw : List Rw} {L : List Rn} (h : AllMt w raw L) : AllMt w (raw.reverse.map bwT) (bwP L) := by
  have hl := h.len
  refine AllMt.of (by simp [bwP, hl]) fun i h1 h2 => ?_
  simp only [List.length_map, List.length_reverse, bwP] at h1 h2
  simp only [bwP, List.getElem_map, List.getElem_reverse, hl]
  exact (h.get _ _ _).bw
theorem Touch.to {g : Nat} {w w' : World} (t : Touch (fun _ => False) w w') : Touch (fun k => k = g) w w' := ⟨t.os, t.tape, t.output, t.size, fun k hk _ => t.block k hk id⟩
theorem Touch.fresh {g : Nat} {w w' : World} (t : Touch (fun k => k = g) w w') (h : w.heap.size ≤ g) : Touch (fun _ => False) w w' := ⟨t.os, t.tape, t.output, t.size, fun k hk _ => t.block k hk (by show ¬ k = g; omega)⟩
theorem Touch.past {g B : Nat} {w W w' : World} (t : Touch (fun k => k = g) w W) (t2 : Touch (fun k => k = B) W w') (h : w.heap.size ≤ B) : Touch (fun k => k = g) w w' := ⟨t2.os.trans t.os, t2.tape.trans t.tape, t2.output.trans t.output, Nat.le_trans t.size t2.size, fun k hk hn => (t2.block k (Nat.lt_of_lt_of_le hk t.size) (by show ¬ k = B; omega)).trans (t.block k hk hn)⟩
set_option maxHeartbeats 16000000 in
theorem bw_any {w : World} {v : Value} {L : List Rn} (h : SlRn w v L) (ok : ∀ r ∈ L, r.Ok) (hl : tot L ≤ 1048576) : Calls Tryz.prog 52 #[v] w fun e w' => ∃ v', e = .returned v' ∧ SlRn w' v' (bwP L) ∧ Touch (fun _ => False) w w' := by
  obtain ⟨raw, hs, hm⟩ := h
  have hln := hm.len
  have hL := tot_len L
  have HC : Hid (Calls Tryz.prog 72 #[v] w fun e w' => ∃ v', e = .returned v' ∧ NewW w w' v' raw) := cloneW_any raw v w hs (by omega)
  have HM : Hid (AllMt w raw L) := hm
  have HOk : Hid (∀ r ∈ raw, (∃ rs, runesOf r.tx.data.toList = some rs) ∧ r.tx.size ≤ 1048576) := fun r hr => by
    obtain ⟨i, hi, rfl⟩ := List.getElem_of_mem hr
    have h1 := hm.get i hi (by omega)
    have h2 := List.getElem_mem (l := L) (n := i) (by omega)
    rw [h1.tx]
    refine ⟨?_, tot_small hl _ h2⟩
    have h3 := ok _ h2
    cases he : L[i].em with
    | true => exact ⟨[], by rw [h3.e he]; exact runesOf_nil⟩
    | false => exact Option.isSome_iff_exists.1 (h3.t he).2
  have hn : raw.length ≤ 1048576 := by omega
  clear hm hL ok hl hs hln
  go_enter Tryz.func52, Tryz.ntmps52
  go_wp2_with fail
  refine HC.out.mono ?_
  rintro e w1 ⟨v1, rfl, hN⟩
  clear HC
  rcases hN.owns.2 with ⟨rfl, h0⟩ | ⟨g, cap, cur, rfl, -, -, q1, q2, -, -⟩
  · have hnil : raw = [] := List.length_eq_zero_iff.1 h0
    subst hnil
    have HR : Hid (Calls Tryz.prog 73 #[.slice none 0 0] w1 fun e w' => e = .returned (.tuple #[]) ∧ Touch (fun _ => False) w1 w') := revW_nil w1
    have HZ : Hid (bwP L = [] ∧ Touch (fun _ => False) w w1) := by
      have : L = [] := List.length_eq_zero_iff.1 HM.out.len.symm
      rw [this]; exact ⟨rfl, hN.touch⟩
    clear hN HM HOk h0 hn
    go_wp2_with fail
    refine HR.out.mono ?_
    rintro e w2 ⟨rfl, t2⟩
    have HT : Hid (Touch (fun _ => False) w w2) := HZ.out.2.trans t2
    clear t2 HR
    go_wp2_with fail
    go_loopg [12] 0 (fun gk s12 wr => s12 = .int .i64 0 ∧ Hid (Touch (fun _ => False) w wr))
    case atStart => exact ⟨rfl, HT.out⟩
    case round =>
      obtain ⟨rfl, HI⟩ := hrel
      go_wp2_with fail
      go_ret
      exact ⟨_, rfl, by rw [HZ.out.1]; exact ⟨[], SlW.nil _, trivial⟩, HI.out⟩
  · have hg : w.heap.size ≤ g := hN.fresh g rfl
    have HR : Hid (Calls Tryz.prog 73 #[.slice (some ⟨g, 0, none⟩) raw.length cap] w1 fun e w' => e = .returned (.tuple #[]) ∧ RwAt w' g raw.length (fun j => (fun j => raw.getD j default) (raw.length - 1 - j)) ∧ Touch (fun k => k = g) w1 w') := revW_any g raw.length cap _ hn w1 hN.at
    have HT1 : Hid (Touch (fun k => k = g) w w1) := hN.touch.to
    clear hN
    go_wp2_with fail
    refine HR.out.mono ?_
    rintro e w2 ⟨rfl, r2, t2⟩
    obtain ⟨R, hR⟩ : ∃ R, Hid (R = raw.reverse) := ⟨_, Eq.refl _⟩
    have hlr : raw.length = R.length := by rw [hR.out, List.length_reverse]
    have H2 : Hid (RwAt w2 g R.length (fun j => if j < 0 then bwT (R.getD j default) else R.getD j default) ∧ Touch (fun k => k = g) w w2) := by
      refine ⟨?_, HT1.out.trans t2⟩
      rw [← hlr]
      refine r2.congr fun j hj => ?_
      show raw.getD (raw.length - 1 - j) default = if j < 0 then bwT (R.getD j default) else R.getD j default
      rw [if_neg (by omega), hR.out]
      simp only [List.getD]
      rw [List.getElem?_reverse hj]
    have HOR : Hid (∀ r ∈ R, (∃ rs, runesOf r.tx.data.toList = some rs) ∧ r.tx.size ≤ 1048576) := fun r hr => HOk.out r (by rw [hR.out] at hr; simpa using hr)
    rw [hlr] at q1 hn ⊢
    have HM2 : Hid (AllMt w (R.map bwT) (bwP L)) := by rw [Hid, hR.out]; exact HM.out.bw
    clear r2 t2 HR HT1 HOk HM hlr hR
    go_wp2_with fail
    go_loopg [12] R.length (fun gk s12 wr => ∃ i : Nat, i + gk = R.length ∧ s12 = .int .i64 (i : Int) ∧ Hid (RwAt wr g R.length (fun j => if j < i then bwT (R.getD j default) else R.getD j default) ∧ Touch (fun k => k = g) w wr))
    case atStart => exact ⟨0, by omega, rfl, H2.out⟩
    case round =>
      obtain ⟨i, hig, rfl, HI⟩ := hrel
      by_cases hil : i < R.length
      · have hi0 : (0 : Int) ≤ (i : Int) := by omega
        have hi1 : (i : Int) < (R.length : Int) := by omega
        have hiw1 : IntKind.i64.wrap ((i : Int) + 1) = (i : Int) + 1 := by rw [IntKind.wrap_i64]; omega
        obtain ⟨⟨rs, hrs⟩, hsz⟩ := HOR.out R[i] (List.getElem_mem hil)
        have hgd : R.getD i default = R[i] := by simp [List.getD, hil]
        obtain ⟨c', W', hcv, hrn, tcv⟩ := runes_conv _ rs hrs hsz wr
        have hrl : rs.length ≤ 1048576 := by have := rsOf_len R[i].tx.data.toList; rw [rsOf_some hrs] at this; simp at this; omega
        have X0 := HI.out.1 i hil
        simp only [if_neg (Nat.lt_irrefl i), hgd] at X0
        have hx := X0.1
        have hglt : g < wr.heap.size := World.block_lt_of_cell? _ _ hx
        have HRv : Hid (Calls Tryz.prog 74 #[.slice (some ⟨wr.heap.size, 0, none⟩) rs.length c'] W' fun e w' => e = .returned (.tuple #[]) ∧ RnAt w' wr.heap.size rs.length (fun j => (fun j => ((rs.getD j 0 : Nat) : Int)) (rs.length - 1 - j)) ∧ Touch (fun k => k = wr.heap.size) W' w') := revR_any wr.heap.size rs.length c' _ hrl W' hrn
        have HI2 : Hid (RwAt W' g R.length (fun j => if j < i then bwT (R.getD j default) else R.getD j default) ∧ Touch (fun k => k = g) w W') := ⟨HI.out.1.touch tcv id, HI.out.2.trans tcv.to⟩
        have hbt : Hid (∀ t, t = strOf (encAll rs.reverse) → R[i].withT t = bwT R[i]) := fun t e => by rw [e]; unfold bwT; rw [rsOf_some hrs]
        have HOkr : Hid (∀ r ∈ rs.reverse, okRune r) := fun r hr => by rw [List.mem_reverse, ← rsOf_some hrs] at hr; exact rsOf_ok _ r hr
        obtain ⟨B, hB⟩ : ∃ B, Hid (B = wr.heap.size) := ⟨_, Eq.refl _⟩
        have HwB : Hid (w.heap.size ≤ B) := by rw [hB.out]; exact HI.out.2.size
        have HBg : Hid (¬ g = B) := by rw [hB.out]; show ¬ g = wr.heap.size; omega
        rw [← hB.out] at HRv hcv
        clear X0 hrn tcv hsz hrs H2 HI
        go_wp2_with fail
        refine HRv.out.mono ?_
        rintro e W3 ⟨rfl, r3, t3⟩
        have hcv2 := conv_mid W3 B 0 c' rs.reverse HOkr.out (fun k hk => by
          rw [List.length_reverse] at hk
          rw [Nat.zero_add, (r3 k hk).1]
          simp only [List.getD, List.getElem_reverse]
          rw [List.getElem?_eq_getElem (by omega)]; rfl)
        rw [List.length_reverse] at hcv2
        have hR3 := HI2.out.1.touch t3 HBg.out
        have hT3 := HI2.out.2.past t3 HwB.out
        have X3 := hR3 i hil
        simp only [if_neg (Nat.lt_irrefl i), hgd] at X3
        have hx3 := X3.1
        have hf3 := X3.2.1
        obtain ⟨t, ht⟩ : ∃ t, Hid (t = strOf (encAll rs.reverse)) := ⟨_, Eq.refl _⟩
        rw [← ht.out] at hcv2
        have HQ : Hid (RwAt (W3.setCell ⟨g, i * 7, none⟩ (.string t)) g R.length (fun j => if j < i + 1 then bwT (R.getD j default) else R.getD j default) ∧ Touch (fun k => k = g) w (W3.setCell ⟨g, i * 7, none⟩ (.string t))) := by
          refine ⟨(hR3.setT i hil t).congr fun j hj => ?_, hT3.setCell _ _ (fun _ => rfl)⟩
          by_cases e1 : j = i
          · subst e1
            rw [if_pos rfl, if_neg (Nat.lt_irrefl j), if_pos (Nat.lt_succ_self j), hgd]
            exact hbt.out t ht.out
          · rw [if_neg e1]
            by_cases e2 : j < i
            · rw [if_pos e2, if_pos (by omega)]
            · rw [if_neg e2, if_neg (by omega)]
        clear r3 t3 hR3 hT3 X3 HRv hx hcv HI2
        go_wp2_with fail
        go_roundg (R.length - (i + 1))
        case measure => omega
        case rel => exact ⟨i + 1, by omega, by go_num, HQ.out⟩
      · have hEq : i = R.length := by omega
        have HF : Hid (SlRn wr (.slice (some ⟨g, 0, none⟩) R.length cap) (bwP L) ∧ Touch (fun _ => False) w wr) := by
          have hT := HI.out.2.fresh hg
          refine ⟨⟨R.map bwT, ?_, HM2.out.touch hT⟩, hT⟩
          have hq := HI.out.1
          rw [show R.length = (R.map bwT).length from by simp] at hq ⊢
          refine hq.sl (fun j hj => ?_) (by simpa using q1) q2
          rw [List.length_map] at hj
          rw [if_pos (by omega)]
          simp [List.getD, hj]
        subst hEq
        clear HI H2 HOR HM2
        go_wp2_with fail
        go_ret
        exact ⟨_, rfl, HF.out.1, HF.out.2⟩
end Go.Proofs.YtijkekkjiboomaaGreatDoor
