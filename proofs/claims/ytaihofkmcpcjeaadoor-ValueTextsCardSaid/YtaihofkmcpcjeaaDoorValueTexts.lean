/- The contract of quirelaw2.ValueTexts. -/
import Derived.Test.YtaihofkmcpcjeaaDoorKnown2
import Derived.Test.YtaihofkmcpcjeaaDoorLight
import Derived.Test.YtaihofkmcpcjeaaDoorBoxes
import Derived.Test.YtaihofkmcpcjeaaDoorTextLaws3
import Derived.Test.YtaihofkmcpcjeaaDoorTextAll
import Derived.Test.YtaihofkmcpcjeaaDoorHelpB
import Derived.Test.YtaihofkmcpcjeaaDoorRef2c
import Derived.Deep.RegionHeld3
namespace Go.Proofs.YtaihofkmcpcjeaaDoor
open Go.RowKit
set_option linter.unusedVariables false
set_option linter.unusedSimpArgs false
set_option maxRecDepth 100000

theorem taken_of (v : V) (hf : v.fits) (h : refCheck v = 0) : v.taken := by
  obtain ⟨k, n, f, s⟩ := v
  have hv : vOk ⟨k, n, f, s⟩ = true := by
    unfold refCheck at h
    cases hv : vOk ⟨k, n, f, s⟩
    · rw [hv] at h; simp at h
    · rfl
  have hs : s.toList.isEmpty = true → s = ⟨#[]⟩ := by
    intro e
    rw [ByteArray.toList_eq] at e
    have : s.data.toList = [] := by simpa using e
    exact ByteArray.ext (Array.ext' this)
  unfold vOk at hv
  simp only at hv
  split at hv
  · rename_i hk
    simp only [Bool.and_eq_true, beq_iff_eq] at hv
    exact ⟨hf, by simp only; omega, fun _ _ => hv.1.1, fun e => by simp only at e; omega, fun _ => by simp only; omega, fun _ => hs hv.2⟩
  split at hv
  · rename_i hk hk1
    simp only [Bool.and_eq_true, beq_iff_eq, Bool.or_eq_true] at hv
    exact ⟨hf, by simp only; omega, fun e => absurd hk1 e, fun _ => hv.1.1, fun _ => by simp only; omega, fun _ => hs hv.2⟩
  split at hv
  · rename_i hk hk1 hk2
    simp only [Bool.and_eq_true, beq_iff_eq] at hv
    exact ⟨hf, by simp only; omega, fun _ e => absurd hk2 e, fun e => absurd e hk1, fun _ => by simp only; omega, fun _ => hs hv.2⟩
  split at hv
  · rename_i hk hk1 hk2 hk3
    simp only [Bool.and_eq_true, beq_iff_eq] at hv
    exact ⟨hf, by simp only; omega, fun _ _ => hv.1, fun e => absurd e hk1, fun e => absurd hk3 e, fun _ => hs hv.2⟩
  split at hv
  · rename_i hk hk1 hk2 hk3 hk4
    simp only [Bool.and_eq_true, beq_iff_eq] at hv
    exact ⟨hf, by simp only; omega, fun _ _ => hv.1.1.1, fun e => absurd e hk1, fun _ => by simp only; omega, fun e => absurd hk4 e⟩
  · cases hv
theorem V.taken.good {v : V} (h : v.taken) : v.good := ⟨h.fit, h.kind, h.bool⟩
theorem putGo_len (f n : Nat) : (putGo f n).length ≤ f + 1 := by
  induction f generalizing n with
  | zero => simp [putGo]
  | succ f ih =>
    simp only [putGo]; split
    · simp
    · simp only [List.length_cons]; have := ih (n / 128); omega
theorem writeOf_len (v : V) : (writeOf v).length ≤ 20 + v.s.size := by
  unfold writeOf
  simp only [List.length_cons]
  split
  · simp; omega
  split
  · have := putGo_len 9 (unzz v.n); unfold putU; omega
  split
  · rw [putF_length]; omega
  split
  · unfold putT putU
    rw [List.length_append]
    have := putGo_len 9 v.s.size
    have e : v.s.data.toList.length = v.s.size := rfl
    omega
  · simp; omega

theorem boxes2_put {S : Nat → Prop} {w0 w w' : World} {A B : Nat} {k n k2 n2 : Int} {f f2 : Nat} {s s2 : ByteArray}
    (h : w.cell? ⟨A, 0, none⟩ = some (.int .i64 k) ∧ w.cell? ⟨A, 1, none⟩ = some (.int .i64 n) ∧ w.cell? ⟨A, 2, none⟩ = some (.float .f64 f) ∧ w.cell? ⟨A, 3, none⟩ = some (.string s) ∧ w.cell? ⟨B, 0, none⟩ = some (.int .i64 k2) ∧ w.cell? ⟨B, 1, none⟩ = some (.int .i64 n2) ∧ w.cell? ⟨B, 2, none⟩ = some (.float .f64 f2) ∧ w.cell? ⟨B, 3, none⟩ = some (.string s2) ∧ Hid (Touch (fun _ => False) w0 w)) (hT : Touch S w w') (hA : ¬ S A) (hB : ¬ S B) (h0 : Touch (fun _ => False) w0 w') :
    w'.cell? ⟨A, 0, none⟩ = some (.int .i64 k) ∧ w'.cell? ⟨A, 1, none⟩ = some (.int .i64 n) ∧ w'.cell? ⟨A, 2, none⟩ = some (.float .f64 f) ∧ w'.cell? ⟨A, 3, none⟩ = some (.string s) ∧ w'.cell? ⟨B, 0, none⟩ = some (.int .i64 k2) ∧ w'.cell? ⟨B, 1, none⟩ = some (.int .i64 n2) ∧ w'.cell? ⟨B, 2, none⟩ = some (.float .f64 f2) ∧ w'.cell? ⟨B, 3, none⟩ = some (.string s2) ∧ Hid (Touch (fun _ => False) w0 w') := by
  have go : ∀ (b o : Nat) (v : Value), ¬ S b → w.cell? ⟨b, o, none⟩ = some v → w'.cell? ⟨b, o, none⟩ = some v := fun b o v hb hv => (hT.cell (World.block_lt_of_cell? _ _ hv) hb o).trans hv
  obtain ⟨h1, h2, h3, h4, h5, h6, h7, h8, h9⟩ := h
  exact ⟨go _ _ _ hA h1, go _ _ _ hA h2, go _ _ _ hA h3, go _ _ _ hA h4, go _ _ _ hB h5, go _ _ _ hB h6, go _ _ _ hB h7, go _ _ _ hB h8, h0⟩
theorem wfoot_ne {w : World} {p q : Nat} {bs : List UInt8} {u : Value} (h : Wr w p bs) (hq : w.heap[q]? = some (.cells #[u] 42 (0, 0))) (hne : q ≠ p) : ¬ wfoot w p q := by
  obtain ⟨v, hp, hown⟩ := h
  rintro (e | ⟨x, hx, he⟩)
  · exact hne e
  · rw [cell_of_block hp] at hx
    simp at hx; subst hx
    exact row_ne hq hown he rfl

theorem Wr.new2 (w : World) : Wr (w.alloc (.cells #[.slice none 0 0] 42)) w.heap.size [] := ⟨_, heap_alloc_new _ _, World.ownsRow_nil _ _ _ _⟩
theorem wfoot_nil {w : World} {p : Nat} (h : w.heap[p]? = some (.cells #[.slice none 0 0] 42 (0, 0))) {k : Nat} (hf : wfoot w p k) : k = p := by
  rcases hf with e | ⟨v, hv, he⟩
  · exact e
  · rw [cell_of_block h] at hv
    simp at hv; subst hv; simp [Value.ownBlock] at he

set_option maxHeartbeats 4000000 in
theorem valueTexts_any (a : V) (fa : a.fits) (b : V) (fb : b.fits) (w : World) (hU : TabsI w) : Calls Tryd.prog 8 #[a.val, b.val] w fun e w' => e = .returned (.bool true) ∧ Touch (fun _ => False) w w' := by
  have HU : Hid (TabsI w) := hU
  clear hU
  have HCa : Hid (a.s.size ≤ 6000 → ∀ w, Calls Tryd.prog 13 #[a.val] w fun e w' => e = .returned (.int .i64 (refCheck a)) ∧ Touch (fun _ => False) w w') := fun h w => ref_check a (by omega) w
  have HCb : Hid (b.s.size ≤ 6000 → ∀ w, Calls Tryd.prog 13 #[b.val] w fun e w' => e = .returned (.int .i64 (refCheck b)) ∧ Touch (fun _ => False) w w') := fun h w => ref_check b (by omega) w
  have HXa : Hid (refCheck a = 0 ∨ refCheck a = 20) := by
    unfold refCheck; split
    · exact .inl rfl
    · exact .inr rfl
  have HXb : Hid (refCheck b = 0 ∨ refCheck b = 20) := by
    unfold refCheck; split
    · exact .inl rfl
    · exact .inr rfl
  have HKa : Hid (refCheck a = 0 → a.taken) := taken_of a fa
  have HKb : Hid (refCheck b = 0 → b.taken) := taken_of b fb
  have HCmp : Hid (∀ w, Calls Tryd.prog 16 #[a.val, b.val] w fun e w' => e = .returned (.int .i64 (refCmp a b)) ∧ Touch (fun _ => False) w w') := v_cmp a b fa.f1 fb.f1
  have HTaa : Hid (a.taken → a.s.size ≤ 6000 → ∀ w, TabsI w → Calls Tryd.prog 32 #[a.val] w fun e w' => e = .returned (.string ⟨(textL a).toArray⟩) ∧ Touch (fun _ => False) w w') := fun h hs w ht => v_text a h (by omega) w ht
  have HTbb : Hid (b.taken → b.s.size ≤ 6000 → ∀ w, TabsI w → Calls Tryd.prog 32 #[b.val] w fun e w' => e = .returned (.string ⟨(textL b).toArray⟩) ∧ Touch (fun _ => False) w w') := fun h hs w ht => v_text b h (by omega) w ht
  have HRaa : Hid (a.taken → a.s.size ≤ 6000 → ∀ w, Calls Tryd.prog 33 #[a.val] w fun e w' => e = .returned (.string ⟨(textL a).toArray⟩) ∧ Touch (fun _ => False) w w') := fun h hs w => ref_text a h (by omega) w
  have HWaa : Hid (a.taken → a.s.size ≤ 6000 → ∀ p w, Wr w p [] → Calls Tryd.prog 21 #[.pointer (some ⟨p, 0, none⟩), a.val] w fun e w' => e = .returned (.tuple #[]) ∧ WrPost p (writeOf a) w w') := fun h hs p w hw => v_write p [] a h.good w hw (by simp; omega)
  have HWbb : Hid (b.taken → b.s.size ≤ 6000 → ∀ p w, Wr w p [] → Calls Tryd.prog 21 #[.pointer (some ⟨p, 0, none⟩), b.val] w fun e w' => e = .returned (.tuple #[]) ∧ WrPost p (writeOf b) w w') := fun h hs p w hw => v_write p [] b h.good w hw (by simp; omega)
  have HTI : Hid (a.taken → b.taken → (((ByteArray.mk (textL a).toArray).toList == (ByteArray.mk (textL b).toArray).toList) = (refCmp a b == 0))) := by
    intro h1 h2
    rw [Bool.eq_iff_iff, beq_iff_eq, beq_iff_eq, ← text_inj h1 h2, ByteArray.toList_eq, ByteArray.toList_eq]
  have HWI : Hid (a.taken → b.taken → a.s.size ≤ 6000 → b.s.size ≤ 6000 → ((writeOf a == writeOf b) = (refCmp a b == 0))) := by
    intro h1 h2 h3 h4
    rw [Bool.eq_iff_iff, beq_iff_eq, beq_iff_eq, ← write_inj h1 h2 h3 h4]
  have HLa : Hid (a.s.size ≤ 6000 → (writeOf a).length ≤ 140737488355328) := fun h => by have := writeOf_len a; omega
  have HLb : Hid (b.s.size ≤ 6000 → (writeOf b).length ≤ 140737488355328) := fun h => by have := writeOf_len b; omega
  generalize refCheck a = Ra at *
  generalize refCheck b = Rb at *
  generalize refCmp a b = C at *
  generalize writeOf a = BA at *
  generalize writeOf b = BB at *
  generalize ByteArray.mk (textL a).toArray = XA at *
  generalize ByteArray.mk (textL b).toArray = XB at *
  clear fa fb
  have HKs : Hid (Ra = 0 → Rb = 0 → a.taken ∧ b.taken) := fun h1 h2 => ⟨HKa.out h1, HKb.out h2⟩
  clear HKa HKb
  obtain ⟨k, n, f, s⟩ := a
  obtain ⟨k2, n2, f2, s2⟩ := b
  simp only [V.val] at *
  have hnot : ∀ (x : Bool) (w : World), (Op.unary .not (.bool x)).run Tryd.prog w = .ok (.bool (!x)) w := fun _ _ => rfl
  go_enter Tryd.func8, Tryd.ntmps8
  go_wp2_with fail
  refine (known2 _).mono ?_
  rintro e w1 ⟨rfl, hT⟩
  have hbox := boxes2_keep (w0 := w) (A := w.heap.size) (B := w.heap.size + 1) (k := k) (n := n) (f := f) (s := s) (k2 := k2) (n2 := n2) (f2 := f2) (s2 := s2)
    ⟨old1 _ (new1 w _ _ 0), old1 _ (new1 w _ _ 1), old1 _ (new1 w _ _ 2), old1 _ (new1 w _ _ 3), (show (w.alloc (.cells #[.int .i64 k, .int .i64 n, .float .f64 f, .string s] 24)).heap.size = w.heap.size + 1 by simp) ▸ new1 _ _ _ 0, (show (w.alloc (.cells #[.int .i64 k, .int .i64 n, .float .f64 f, .string s] 24)).heap.size = w.heap.size + 1 by simp) ▸ new1 _ _ _ 1, (show (w.alloc (.cells #[.int .i64 k, .int .i64 n, .float .f64 f, .string s] 24)).heap.size = w.heap.size + 1 by simp) ▸ new1 _ _ _ 2, (show (w.alloc (.cells #[.int .i64 k, .int .i64 n, .float .f64 f, .string s] 24)).heap.size = w.heap.size + 1 by simp) ▸ new1 _ _ _ 3, ((Touch.refl _ _).alloc _).alloc _⟩ hT
  clear hT
  obtain ⟨c1, c2, c3, c4, c5, c6, c7, c8, HT1⟩ := hbox
  by_cases l1 : s.size ≤ 6000
  case neg =>
    go_wp2_with fail
    refine (l_light _ _ _ _ _).mono ?_
    rintro e w2 ⟨rfl, rfl⟩
    rw [decide_eq_false l1]
    have HT2 : Hid (Touch (fun _ => False) w (w1.alloc (.cells #[.int .i64 k, .int .i64 n, .float .f64 f, .string s] 24))) := HT1.out.alloc _
    clear l1
    go_wp2_with fail
    go_ret
    exact ⟨rfl, HT2.out⟩
  go_wp2_with fail
  refine (l_light _ _ _ _ _).mono ?_
  rintro e w2 ⟨rfl, hw⟩
  rw [decide_eq_true l1]
  have hbox := boxes2_keep ⟨c1, c2, c3, c4, c5, c6, c7, c8, HT1⟩ (show Touch (fun _ => False) w1 w2 by rw [hw]; exact (Touch.refl _ _).alloc _)
  clear hw c1 c2 c3 c4 c5 c6 c7 c8 HT1
  have L1 : Hid (s.size ≤ 6000) := l1
  clear l1
  obtain ⟨c1, c2, c3, c4, c5, c6, c7, c8, HT1⟩ := hbox
  by_cases l2 : s2.size ≤ 6000
  case neg =>
    go_wp2_with fail
    refine (l_light _ _ _ _ _).mono ?_
    rintro e w3 ⟨rfl, rfl⟩
    rw [decide_eq_false l2]
    have HT2 : Hid (Touch (fun _ => False) w (w2.alloc (.cells #[.int .i64 k2, .int .i64 n2, .float .f64 f2, .string s2] 24))) := HT1.out.alloc _
    clear l2
    go_wp2_with fail
    go_ret
    exact ⟨rfl, HT2.out⟩
  go_wp2_with fail
  refine (l_light _ _ _ _ _).mono ?_
  rintro e w3 ⟨rfl, hw⟩
  rw [decide_eq_true l2]
  have hbox := boxes2_keep ⟨c1, c2, c3, c4, c5, c6, c7, c8, HT1⟩ (show Touch (fun _ => False) w2 w3 by rw [hw]; exact (Touch.refl _ _).alloc _)
  clear hw c1 c2 c3 c4 c5 c6 c7 c8 HT1
  have L2 : Hid (s2.size ≤ 6000) := l2
  clear l2
  obtain ⟨c1, c2, c3, c4, c5, c6, c7, c8, HT1⟩ := hbox
  go_wp2_with fail
  refine (HCa.out L1.out _).mono ?_
  rintro e w4 ⟨rfl, hT⟩
  have hbox := boxes2_keep ⟨c1, c2, c3, c4, c5, c6, c7, c8, HT1⟩ hT
  clear hT c1 c2 c3 c4 c5 c6 c7 c8 HT1
  obtain ⟨c1, c2, c3, c4, c5, c6, c7, c8, HT1⟩ := hbox
  by_cases zRa : Ra = 0
  case neg =>
    have zz : Ra = 20 := HXa.out.resolve_left zRa
    subst zz
    clear zRa
    go_wp2_with fail
    go_ret
    exact ⟨rfl, HT1.out⟩
  subst zRa
  go_wp2_with fail
  refine (HCb.out L2.out _).mono ?_
  rintro e w5 ⟨rfl, hT⟩
  have hbox := boxes2_keep ⟨c1, c2, c3, c4, c5, c6, c7, c8, HT1⟩ hT
  clear hT c1 c2 c3 c4 c5 c6 c7 c8 HT1
  obtain ⟨c1, c2, c3, c4, c5, c6, c7, c8, HT1⟩ := hbox
  by_cases zRb : Rb = 0
  case neg =>
    have zz : Rb = 20 := HXb.out.resolve_left zRb
    subst zz
    clear zRb
    go_wp2_with fail
    go_ret
    exact ⟨rfl, HT1.out⟩
  subst zRb
  obtain ⟨ta, tb⟩ := HKs.out (by first | rfl | trivial) (by first | rfl | trivial)
  have HTa : Hid (∀ w, TabsI w → Calls Tryd.prog 32 #[.agg #[.int .i64 k, .int .i64 n, .float .f64 f, .string s]] w fun e w' => e = .returned (.string XA) ∧ Touch (fun _ => False) w w') := HTaa.out ta L1.out
  have HTb : Hid (∀ w, TabsI w → Calls Tryd.prog 32 #[.agg #[.int .i64 k2, .int .i64 n2, .float .f64 f2, .string s2]] w fun e w' => e = .returned (.string XB) ∧ Touch (fun _ => False) w w') := HTbb.out tb L2.out
  have HRa : Hid (∀ w, Calls Tryd.prog 33 #[.agg #[.int .i64 k, .int .i64 n, .float .f64 f, .string s]] w fun e w' => e = .returned (.string XA) ∧ Touch (fun _ => False) w w') := HRaa.out ta L1.out
  have HWa : Hid (∀ p w, Wr w p [] → Calls Tryd.prog 21 #[.pointer (some ⟨p, 0, none⟩), .agg #[.int .i64 k, .int .i64 n, .float .f64 f, .string s]] w fun e w' => e = .returned (.tuple #[]) ∧ WrPost p BA w w') := HWaa.out ta L1.out
  have HWb : Hid (∀ p w, Wr w p [] → Calls Tryd.prog 21 #[.pointer (some ⟨p, 0, none⟩), .agg #[.int .i64 k2, .int .i64 n2, .float .f64 f2, .string s2]] w fun e w' => e = .returned (.tuple #[]) ∧ WrPost p BB w w') := HWbb.out tb L2.out
  have hti := HTI.out ta tb
  have hwi := HWI.out ta tb L1.out L2.out
  have HLA : Hid (BA.length ≤ 140737488355328) := HLa.out L1.out
  have HLB : Hid (BB.length ≤ 140737488355328) := HLb.out L2.out
  clear ta tb HTaa HTbb HRaa HWaa HWbb HTI HWI HLa HLb HKs HXa HXb HCa HCb L1 L2
  have HTI : Hid ((XA.toList == XB.toList) = (C == 0)) := hti
  have HWI : Hid ((BA == BB) = (C == 0)) := hwi
  clear hti hwi
  have hsz5 : w.heap.size + 1 < w5.heap.size := World.block_lt_of_cell? _ _ c5
  have e1 : (w5.alloc (.cells #[.slice none 0 0] 42)).heap.size = w5.heap.size + 1 := by simp
  have hbox := boxes2_keep ⟨c1, c2, c3, c4, c5, c6, c7, c8, HT1⟩ (show Touch (fun _ => False) w5 ((w5.alloc (.cells #[.slice none 0 0] 42)).alloc (.cells #[.slice none 0 0] 42)) from ((Touch.refl _ _).alloc _).alloc _)
  clear c1 c2 c3 c4 c5 c6 c7 c8 HT1
  obtain ⟨c1, c2, c3, c4, c5, c6, c7, c8, HT1⟩ := hbox
  have hn5 : Wr ((w5.alloc (.cells #[.slice none 0 0] 42)).alloc (.cells #[.slice none 0 0] 42)) w5.heap.size [] := (Wr.new2 w5).keep ((Touch.refl (fun _ => False) _).alloc _) (fun _ _ => id)
  have hb6 : ((w5.alloc (.cells #[.slice none 0 0] 42)).alloc (.cells #[.slice none 0 0] 42)).heap[w5.heap.size + 1]? = some (.cells #[.slice none 0 0] 42) := by
    have := heap_alloc_new (w5.alloc (.cells #[.slice none 0 0] 42)) (.cells #[.slice none 0 0] 42)
    rwa [e1] at this
  have hb5 : ((w5.alloc (.cells #[.slice none 0 0] 42)).alloc (.cells #[.slice none 0 0] 42)).heap[w5.heap.size]? = some (.cells #[.slice none 0 0] 42) := by
    rw [Below.heap_alloc _ _ _ (by rw [e1]; omega)]; exact heap_alloc_new _ _
  have HN5 : Hid (Wr ((w5.alloc (.cells #[.slice none 0 0] 42)).alloc (.cells #[.slice none 0 0] 42)) w5.heap.size []) := hn5
  have HB5 : Hid (((w5.alloc (.cells #[.slice none 0 0] 42)).alloc (.cells #[.slice none 0 0] 42)).heap[w5.heap.size]? = some (.cells #[.slice none 0 0] 42)) := hb5
  have HB6 : Hid (((w5.alloc (.cells #[.slice none 0 0] 42)).alloc (.cells #[.slice none 0 0] 42)).heap[w5.heap.size + 1]? = some (.cells #[.slice none 0 0] 42)) := hb6
  clear hn5 hb5 hb6 e1
  go_wp2_with fail
  refine (HWa.out _ _ HN5.out).mono ?_
  rintro e w6 ⟨rfl, hP⟩
  have hTS : Touch (· = w5.heap.size) ((w5.alloc (.cells #[.slice none 0 0] 42)).alloc (.cells #[.slice none 0 0] 42)) w6 := hP.touch.mono (fun k _ hf => wfoot_nil HB5.out hf)
  have hT06 : Touch (fun _ => False) w w6 := HT1.out.then hTS (fun k hk e => by omega)
  have hbox := boxes2_put ⟨c1, c2, c3, c4, c5, c6, c7, c8, HT1⟩ hTS (show ¬ (w.heap.size = w5.heap.size) by omega) (show ¬ (w.heap.size + 1 = w5.heap.size) by omega) hT06
  have hb6 : w6.heap[w5.heap.size + 1]? = some (.cells #[.slice none 0 0] 42) := (hTS.block _ (lt_of_heap HB6.out) (by omega)).trans HB6.out
  have HB6' : Hid (w6.heap[w5.heap.size + 1]? = some (.cells #[.slice none 0 0] 42)) := hb6
  have HW5 : Hid (Wr w6 w5.heap.size BA) := hP.is
  have HN6 : Hid (Wr w6 (w5.heap.size + 1) []) := ⟨_, hb6, World.ownsRow_nil _ _ _ _⟩
  clear hP hTS hT06 hb6 HB5 HB6 HN5 c1 c2 c3 c4 c5 c6 c7 c8 HT1
  obtain ⟨c1, c2, c3, c4, c5, c6, c7, c8, HT1⟩ := hbox
  go_wp2_with fail
  refine (HWb.out _ _ HN6.out).mono ?_
  rintro e w7 ⟨rfl, hP⟩
  have hTS : Touch (· = w5.heap.size + 1) w6 w7 := hP.touch.mono (fun k _ hf => wfoot_nil HB6'.out hf)
  have hT07 : Touch (fun _ => False) w w7 := HT1.out.then hTS (fun k hk e => by omega)
  have hbox := boxes2_put ⟨c1, c2, c3, c4, c5, c6, c7, c8, HT1⟩ hTS (show ¬ (w.heap.size = w5.heap.size + 1) by omega) (show ¬ (w.heap.size + 1 = w5.heap.size + 1) by omega) hT07
  have HW5' : Hid (Wr w7 w5.heap.size BA) := HW5.out.keep hTS (fun k hk e => by subst e; exact wfoot_ne HW5.out HB6'.out (by omega) hk)
  have HW6 : Hid (Wr w7 (w5.heap.size + 1) BB) := hP.is
  clear hP hTS hT07 HB6' HN6 HW5 c1 c2 c3 c4 c5 c6 c7 c8 HT1 HWa HWb
  obtain ⟨c1, c2, c3, c4, c5, c6, c7, c8, HT1⟩ := hbox
  generalize w5.heap.size + 1 = P6 at *
  generalize w5.heap.size = P5 at *
  clear hsz5
  go_wp2_with fail
  refine (HCmp.out _).mono ?_
  rintro e w8 ⟨rfl, hT⟩
  have hbox := boxes2_keep ⟨c1, c2, c3, c4, c5, c6, c7, c8, HT1⟩ hT
  have HW5 : Hid (Wr w8 P5 BA) := HW5'.out.keep hT (fun _ _ => id)
  have HW6' : Hid (Wr w8 P6 BB) := HW6.out.keep hT (fun _ _ => id)
  clear hT c1 c2 c3 c4 c5 c6 c7 c8 HT1 HW5' HW6 HCmp
  have HW6 : Hid (Wr w8 P6 BB) := HW6'.out
  clear HW6'
  obtain ⟨c1, c2, c3, c4, c5, c6, c7, c8, HT1⟩ := hbox
  have ea : (XA.toList == XA.toList) = true := by simp
  cases hC : (C == 0)
  all_goals
    have hti := HTI.out
    have hwi := HWI.out
    rw [hC] at hti hwi
    clear HTI HWI
    go_wp2_with fail
    have hb2 := boxes2_keep ⟨c1, c2, c3, c4, c5, c6, c7, c8, HT1⟩ (show Touch (fun _ => False) w8 w8.drew from (Touch.refl _ _).drew)
    have HW5 : Hid (Wr w8.drew P5 BA) := HW5.out.keep (Touch.refl (fun _ => False) w8).drew (fun _ _ => id)
    have HW6 : Hid (Wr w8.drew P6 BB) := HW6.out.keep (Touch.refl (fun _ => False) w8).drew (fun _ _ => id)
    clear c1 c2 c3 c4 c5 c6 c7 c8 HT1
    go_region_held3 (fun w' => w'.cell? ⟨w.heap.size, 0, none⟩ = some (.int .i64 k) ∧ w'.cell? ⟨w.heap.size, 1, none⟩ = some (.int .i64 n) ∧ w'.cell? ⟨w.heap.size, 2, none⟩ = some (.float .f64 f) ∧ w'.cell? ⟨w.heap.size, 3, none⟩ = some (.string s) ∧ w'.cell? ⟨w.heap.size + 1, 0, none⟩ = some (.int .i64 k2) ∧ w'.cell? ⟨w.heap.size + 1, 1, none⟩ = some (.int .i64 n2) ∧ w'.cell? ⟨w.heap.size + 1, 2, none⟩ = some (.float .f64 f2) ∧ w'.cell? ⟨w.heap.size + 1, 3, none⟩ = some (.string s2) ∧ Hid (Touch (fun _ => False) w w')) (assumption)
      (first
        | (go_at_call 32; (with_reducible refine (HTa.out _ (HU.out.keep (boxes2_touch (by assumption)))).mono ?_); rintro e w' ⟨rfl, hT⟩; have hS2 := boxes2_keep (by assumption) hT; have HW5 : Hid (Wr w' P5 BA) := HW5.out.keep hT (fun _ _ => id); have HW6 : Hid (Wr w' P6 BB) := HW6.out.keep hT (fun _ _ => id); clear hT)
        | (go_at_call 32; (with_reducible refine (HTb.out _ (HU.out.keep (boxes2_touch (by assumption)))).mono ?_); rintro e w' ⟨rfl, hT⟩; have hS2 := boxes2_keep (by assumption) hT; have HW5 : Hid (Wr w' P5 BA) := HW5.out.keep hT (fun _ _ => id); have HW6 : Hid (Wr w' P6 BB) := HW6.out.keep hT (fun _ _ => id); clear hT)
        | (go_at_call 33; (with_reducible refine (HRa.out _).mono ?_); rintro e w' ⟨rfl, hT⟩; have hS2 := boxes2_keep (by assumption) hT; have HW5 : Hid (Wr w' P5 BA) := HW5.out.keep hT (fun _ _ => id); have HW6 : Hid (Wr w' P6 BB) := HW6.out.keep hT (fun _ _ => id); clear hT)
        | (go_at_call_of 22 (Value.pointer (some ⟨P5, 0, none⟩)); (with_reducible refine (wbytes_any P5 BA _ HW5.out HLA.out).mono ?_); rintro e w' ⟨v, rfl, hown, hT⟩; obtain ⟨ao5, cap5, g5, rfl, hL, hX⟩ := lies_of_owned hown; clear hX; have hS2 := boxes2_keep (by assumption) hT; have HW5 : Hid (Wr w' P5 BA) := HW5.out.keep hT (fun _ _ => id); have HW6 : Hid (Wr w' P6 BB) := HW6.out.keep hT (fun _ _ => id); have HL5 : Hid (Lies w' g5 ao5 BA) := hL; clear hT hown hL)
        | (go_at_call_of 22 (Value.pointer (some ⟨P6, 0, none⟩)); (with_reducible refine (wbytes_any P6 BB _ HW6.out HLB.out).mono ?_); rintro e w' ⟨v, rfl, hown, hT⟩; obtain ⟨ao6, cap6, g6, rfl, hL, hX⟩ := lies_of_owned hown; clear hX; have hS2 := boxes2_keep (by assumption) hT; have HW5 : Hid (Wr w' P5 BA) := HW5.out.keep hT (fun _ _ => id); have HW6 : Hid (Wr w' P6 BB) := HW6.out.keep hT (fun _ _ => id); have HL5 : Hid (Lies w' g5 ao5 BA) := HL5.out.keep (fun e => hT.block _ (HL5.out.lt e) id); have HL6 : Hid (Lies w' g6 ao6 BB) := hL; clear hT hown hL)
        | (go_at_call 23; (with_reducible refine (help_bytes _ _ _ _ _ _ _ _ _ _ rfl rfl _ HL5.out HL6.out).mono ?_); rintro e w' ⟨rfl, rfl⟩))
    obtain ⟨d1, d2, d3, d4, d5, d6, d7, d8, HT5⟩ := hS2
    clear d1 d2 d3 d4 d5 d6 d7 d8
    go_wp2_with fail
    go_ret
    exact ⟨rfl, HT5.out⟩
end Go.Proofs.YtaihofkmcpcjeaaDoor
