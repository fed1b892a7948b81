/- The document's texts of marks. -/
import Derived.Test.YtijkekkjiboomaaGreatDoorPart27
namespace Go.Proofs.YtijkekkjiboomaaGreatDoor
open Go.RowKit Go.Maps
set_option linter.unusedVariables false
set_option linter.unusedSimpArgs false
set_option maxRecDepth 100000

theorem marks_take {l : List Mk} {i : Nat} (h : i < l.length) : (l.take (i + 1)).flatMap mkT = (l.take i).flatMap mkT ++ mkT l[i] := by
  rw [List.take_succ_eq_append_getElem h, List.flatMap_append, List.flatMap_cons, List.flatMap_nil, List.append_nil]
theorem marks_take_le (l : List Mk) (i : Nat) : ((l.take i).flatMap mkT).length ≤ (l.flatMap mkT).length := by
  have e : l = l.take i ++ l.drop i := (List.take_append_drop i l).symm
  conv => rhs; rw [e]
  rw [List.flatMap_append, List.length_append]; omega
theorem strOf_app (a b : List UInt8) : strOf a ++ strOf b = strOf (a ++ b) := by
  apply bytes_ext
  rw [strOf_list, append_data, strOf_list, strOf_list]
set_option maxHeartbeats 8000000 in
theorem qmarks_any {w : World} {v : Value} {l : List Mk} (hl : SlY w v l) (tk : ∀ m ∈ l, TakM m) (hb : (l.flatMap mkT).length ≤ 100000000) :
    Calls Tryz.prog 32 #[v] w fun e w' => e = .returned (.string (strOf (l.flatMap mkT))) ∧ Touch (fun _ => False) w w' := by
  obtain ⟨ao, cap, rfl, -, hl1, hl2⟩ := hl.shape
  have hll : l.length ≤ 9223372036854775807 := by omega
  have HA : Hid (l ≠ [] → _) := hl.at
  have HQ : Hid (∀ i (h : i < l.length) W, Calls Tryz.prog 31 #[.string l[i].ky] W fun e w' => e = .returned (.string (strOf (qL l[i].ky))) ∧ Touch (fun _ => False) W w') := fun i h W => ref_quote l[i].ky (by have := (tk _ (List.getElem_mem h)).k; omega) W
  have HT : Hid (∀ i (h : i < l.length) W, Calls Tryz.prog 30 #[.agg #[.int .i64 l[i].vk, .int .i64 l[i].vn, .float .f64 l[i].vf, .string l[i].vs]] W fun e w' => e = .returned (.string (strOf (textL l[i].v))) ∧ Touch (fun _ => False) W w') := fun i h W => ref_text l[i].v (tk _ (List.getElem_mem h)).v (by have := (tk _ (List.getElem_mem h)).s; show l[i].vs.size ≤ _; omega) W
  have HB : Hid ((l.flatMap mkT).length ≤ 100000000) := hb
  have H0 : Hid (Touch (fun _ => False) w w) := Touch.refl _ _
  clear hl tk hb
  go_enter Tryz.func32, Tryz.ntmps32
  go_wp2_with fail
  go_loopg [3, 4] l.length (fun gk s3 s4 wr => ∃ (i : Nat) (o : ByteArray), i + gk = l.length ∧ s3 = .string o ∧ s4 = .int .i64 (i : Int) ∧ Hid (Touch (fun _ => False) w wr ∧ o = strOf ((l.take i).flatMap mkT)))
  case atStart => exact ⟨0, _, by omega, rfl, rfl, H0.out, rfl⟩
  case round =>
    obtain ⟨i, o, hig, rfl, rfl, HI⟩ := hrel
    by_cases hil : i < l.length
    · obtain ⟨b, off, rfl, hca⟩ := HA.out (by intro e; subst e; simp at hil)
      have HX : Hid (∀ W, Touch (fun _ => False) w W → _) := fun W (t : Touch (fun _ => False) w W) => hca W t i hil
      have hi1 : (0 : Int) ≤ (i : Int) := by omega
      have hi2 : (i : Int) < (l.length : Int) := by omega
      have HQi : Hid (∀ W, Calls Tryz.prog 31 #[.string l[i].ky] W fun e w' => e = .returned (.string (strOf (qL l[i].ky))) ∧ Touch (fun _ => False) W w') := HQ.out i hil
      have HTi : Hid (∀ W, Calls Tryz.prog 30 #[.agg #[.int .i64 l[i].vk, .int .i64 l[i].vn, .float .f64 l[i].vf, .string l[i].vs]] W fun e w' => e = .returned (.string (strOf (textL l[i].v))) ∧ Touch (fun _ => False) W w') := HT.out i hil
      have hsz : o.size + 1 + (strOf (qL l[i].ky)).size + 1 + (strOf (textL l[i].v)).size ≤ 100000000 := by
        have h1 := marks_take_le l (i + 1)
        have h2 := HB.out
        rw [marks_take hil, List.length_append] at h1
        have h3 : (mkT l[i]).length = 1 + (qL l[i].ky).length + 1 + (textL l[i].v).length := by unfold mkT; simp only [List.length_cons, List.length_append]; omega
        rw [HI.out.2, strOf_size, strOf_size, strOf_size]
        omega
      have HF : Hid (o ++ ⟨#[32]⟩ ++ strOf (qL l[i].ky) ++ ⟨#[61]⟩ ++ strOf (textL l[i].v) = strOf ((l.take (i + 1)).flatMap mkT)) := by
        have e1 : (⟨#[32]⟩ : ByteArray) = strOf [32] := rfl
        have e2 : (⟨#[61]⟩ : ByteArray) = strOf [61] := rfl
        rw [Hid, HI.out.2, e1, e2, strOf_app, strOf_app, strOf_app, strOf_app, marks_take hil]
        congr 1
        unfold mkT
        simp only [List.append_assoc, List.cons_append, List.nil_append]
      have T0 : Touch (fun _ => False) w wr := HI.out.1
      clear hca HA HQ HT HI
      generalize l[i] = a at *
      obtain ⟨ky, vk, vn, vf, vs⟩ := a
      simp only at HX HQi HTi HF hsz
      generalize strOf (qL ky) = q at *
      generalize strOf (textL (Mk.v ⟨ky, vk, vn, vf, vs⟩)) = t at *
      have TD : Touch (fun _ => False) w wr.drew := T0.drew
      have S0 := HX.out _ TD
      have c1 : ¬ 9223372036854775807 < o.size + (ByteArray.mk #[32]).size := by show ¬ 9223372036854775807 < o.size + 1; omega
      have c2 : ¬ 9223372036854775807 < (o ++ ⟨#[32]⟩).size + q.size := by rw [ByteArray.size_append]; show ¬ 9223372036854775807 < o.size + 1 + q.size; omega
      have c3 : ¬ 9223372036854775807 < (o ++ ⟨#[32]⟩ ++ q).size + (ByteArray.mk #[61]).size := by rw [ByteArray.size_append, ByteArray.size_append]; show ¬ 9223372036854775807 < o.size + 1 + q.size + 1; omega
      have c4 : ¬ 9223372036854775807 < (o ++ ⟨#[32]⟩ ++ q ++ ⟨#[61]⟩).size + t.size := by rw [ByteArray.size_append, ByteArray.size_append, ByteArray.size_append]; show ¬ 9223372036854775807 < o.size + 1 + q.size + 1 + t.size; omega
      have d2 : ¬ 9223372036854775807 < o.size + (ByteArray.mk #[32]).size + q.size := by show ¬ 9223372036854775807 < o.size + 1 + q.size; omega
      have d3 : ¬ 9223372036854775807 < o.size + (ByteArray.mk #[32]).size + q.size + (ByteArray.mk #[61]).size := by show ¬ 9223372036854775807 < o.size + 1 + q.size + 1; omega
      have d4 : ¬ 9223372036854775807 < o.size + (ByteArray.mk #[32]).size + q.size + (ByteArray.mk #[61]).size + t.size := by show ¬ 9223372036854775807 < o.size + 1 + q.size + 1 + t.size; omega
      have f1 : ¬ 9223372036854775807 < o.size + 1 := by omega
      have f2 : ¬ 9223372036854775807 < o.size + 1 + q.size := by omega
      have f3 : ¬ 9223372036854775807 < o.size + 1 + q.size + 1 := by omega
      have f4 : ¬ 9223372036854775807 < o.size + 1 + q.size + 1 + t.size := by omega
      clear hsz c1 c2 c3 c4 d2 d3 d4
      go_upto_region 5 with fail
      go_region_held3 (fun W => W.cell? ⟨b, off + i * 5, none⟩ = some (.string ky) ∧ W.cell? ⟨b, off + i * 5 + 1, none⟩ = some (.int .i64 vk) ∧ W.cell? ⟨b, off + i * 5 + 2, none⟩ = some (.int .i64 vn) ∧ W.cell? ⟨b, off + i * 5 + 3, none⟩ = some (.float .f64 vf) ∧ W.cell? ⟨b, off + i * 5 + 4, none⟩ = some (.string vs)) (first | assumption)
        (first
          | (go_at_call 31; (with_reducible refine (HQi.out _).mono ?_); rintro e w1 ⟨rfl, t1⟩; have TT := Touch.trans (by assumption) t1; have S1 := HX.out w1 TT; clear t1)
          | (go_at_call 30; (with_reducible refine (HTi.out _).mono ?_); rintro e w1 ⟨rfl, t1⟩; have TT := Touch.trans (by assumption) t1; have S1 := HX.out w1 TT; clear t1))
      all_goals (have TF := TT; have HG : Hid (Touch (fun _ => False) w w1) := TF; clear S0 S1 HQi HTi TD TT TF HX T0 f1 f2 f3 f4)
      all_goals (try go_wp2_with fail)
      all_goals (go_roundg (l.length - (i + 1)))
      all_goals (first | (case measure => omega) | skip)
      all_goals exact ⟨i + 1, _, by omega, rfl, by go_num, HG.out, HF.out⟩
    · have : i = l.length := by omega
      subst this
      have HG : Hid (Touch (fun _ => False) w wr ∧ o = strOf (l.flatMap mkT)) := by
        have h := HI.out
        rw [List.take_length] at h
        exact h
      clear HI HA HQ HT
      go_wp2_with fail
      go_ret
      exact ⟨by rw [← HG.out.2]; rfl, HG.out.1⟩
end Go.Proofs.YtijkekkjiboomaaGreatDoor

/- The document's texts of entries. -/
namespace Go.Proofs.YtijkekkjiboomaaGreatDoor
open Go.RowKit Go.Maps
set_option linter.unusedVariables false
set_option linter.unusedSimpArgs false
set_option maxRecDepth 100000

theorem inset_succ (d : Nat) : insetT (d + 1) = insetT d ++ [32, 32] := by
  unfold insetT
  rw [Nat.mul_add]
  exact (List.replicate_append_replicate (n := 2 * d) (m := 2) (a := (32 : UInt8))).symm
set_option maxHeartbeats 16000000 in
theorem qentries_any {w0 : World} : ∀ (h : Nat) (l : List En) (v : Value) (d : Nat) (w : World), GoodL w0 h v l → Touch (fun _ => False) w0 w → (insetT (d + h)).length ≤ 100000 → (ensT d l).length ≤ 100000000 →
    Calls Tryz.prog 33 #[v, .string (strOf (insetT d))] w fun e w' => e = .returned (.string (strOf (ensT d l))) ∧ Touch (fun _ => False) w0 w' := by
  intro h
  induction h with
  | zero =>
    intro l v d w g t hd hb
    obtain ⟨hsl, rfl⟩ := g
    obtain ⟨ao, cap, rfl, -⟩ := hsl.shape
    have HQ : Hid (Touch (fun _ => False) w0 w) := t
    clear hsl t hb hd
    generalize strOf (insetT d) = A at *
    have HE : Hid (strOf (ensT d []) = ⟨#[]⟩) := rfl
    generalize strOf (ensT d []) = R at *
    go_enter Tryz.func33, Tryz.ntmps33
    have e0 : (([] : List En).length : Int) = 0 := rfl
    go_wp2_with fail
    go_loopg [5, 6] 0 (fun gk s5 s6 wr => s5 = .string ⟨#[]⟩ ∧ s6 = .int .i64 0 ∧ Hid (Touch (fun _ => False) w0 wr))
    case atStart => exact ⟨rfl, rfl, HQ.out⟩
    case round =>
      obtain ⟨rfl, rfl, HI⟩ := hrel
      go_wp2_with fail
      go_ret
      exact ⟨by rw [HE.out]; rfl, HI.out⟩
  | succ h ih =>
    intro l v d w g t hd hb
    obtain ⟨hsl, hg⟩ := g
    obtain ⟨ao, cap, rfl, hll⟩ := hsl.shape
    have HA : Hid (SlE w0 (.slice ao l.length cap) l) := hsl
    have HG : Hid (∀ e ∈ l, V.taken e.v ∧ e.v.s.size ≤ 1048576 ∧ e.ky.size ≤ 1048576 ∧ GoodL w0 h e.raw.val e.kids) := hg
    have HB : Hid ((ensT d l).length ≤ 100000000) := hb
    have HQ : Hid (Touch (fun _ => False) w0 w) := t
    have HIH : Hid (∀ (l : List En) (v : Value) (d : Nat) (w : World), GoodL w0 h v l → Touch (fun _ => False) w0 w → (insetT (d + h)).length ≤ 100000 → (ensT d l).length ≤ 100000000 → Calls Tryz.prog 33 #[v, .string (strOf (insetT d))] w fun e w' => e = .returned (.string (strOf (ensT d l))) ∧ Touch (fun _ => False) w0 w') := ih
    have HD : Hid ((insetT (d + 1 + h)).length ≤ 100000) := by show _ ≤ _; rw [show d + 1 + h = d + (h + 1) from by omega]; exact hd
    obtain ⟨A, hA⟩ : ∃ A, Hid (A = strOf (insetT d)) := ⟨_, Eq.refl _⟩
    have hAs : A.size ≤ 100000 := by
      rw [hA.out, strOf_size, insetT_len]
      rw [insetT_len] at hd
      omega
    rw [← hA.out]
    clear hsl t hb hg ih hd
    go_enter Tryz.func33, Tryz.ntmps33
    go_wp2_with fail
    go_loopg [5, 6] l.length (fun gk s5 s6 wr => ∃ (i : Nat) (o : ByteArray), i + gk = l.length ∧ s5 = .string o ∧ s6 = .int .i64 (i : Int) ∧ Hid (Touch (fun _ => False) w0 wr ∧ o = strOf (ensT d (l.take i))))
    case atStart => exact ⟨0, _, by omega, rfl, rfl, HQ.out, rfl⟩
    case round =>
      obtain ⟨i, o, hig, rfl, rfl, HI⟩ := hrel
      by_cases hil : i < l.length
      · obtain ⟨b, off, rfl, hca⟩ := HA.out.at hil
        have HX : Hid (∀ W, Touch (fun _ => False) w0 W → _) := fun W (t : Touch (fun _ => False) w0 W) => hca W t
        have hi1 : (0 : Int) ≤ (i : Int) := by omega
        have hi2 : (i : Int) < (l.length : Int) := by omega
        obtain ⟨g1, g2, g3, g4⟩ := HG.out _ (List.getElem_mem hil)
        have HJ : Hid (ensT d (l.take (i + 1)) = ensT d (l.take i) ++ (entT d l[i].ky l[i].v ++ [10] ++ ensT (d + 1) l[i].kids)) := by
          show _ = _
          rw [ensT_take hil, enT_eq]
        have hlen : (ensT d (l.take i)).length + ((entT d l[i].ky l[i].v).length + 1 + (ensT (d + 1) l[i].kids).length) ≤ 100000000 := by
          have h1 := congrArg List.length HJ.out
          have h2 := ensT_take_le d l (i + 1)
          have h3 := HB.out
          rw [List.length_append, List.length_append, List.length_append] at h1
          have h4 : ([10] : List UInt8).length = 1 := rfl
          omega
        have hent : (entT d l[i].ky l[i].v).length = (insetT d).length + 2 + (qL l[i].ky).length + 1 + (textL l[i].v).length := by
          unfold entT; simp only [List.length_append, List.length_cons, List.length_nil]; omega
        have HQi : Hid (∀ W, Calls Tryz.prog 31 #[.string l[i].ky] W fun e w' => e = .returned (.string (strOf (qL l[i].ky))) ∧ Touch (fun _ => False) W w') := fun W => ref_quote l[i].ky (by omega) W
        have HTi : Hid (∀ W, Calls Tryz.prog 30 #[.agg #[.int .i64 l[i].v.k, .int .i64 l[i].v.n, .float .f64 l[i].v.f, .string l[i].v.s]] W fun e w' => e = .returned (.string (strOf (textL l[i].v))) ∧ Touch (fun _ => False) W w') := fun W => ref_text l[i].v g1 (by omega) W
        have HRi : Hid (∀ W, Touch (fun _ => False) w0 W → Calls Tryz.prog 33 #[l[i].raw.val, .string (A ++ ⟨#[32, 32]⟩)] W fun e w' => e = .returned (.string (strOf (ensT (d + 1) l[i].kids))) ∧ Touch (fun _ => False) w0 w') := fun W t => by
          have h1 := HIH.out l[i].kids l[i].raw.val (d + 1) W g4 t HD.out (by omega)
          have e2 : (⟨#[32, 32]⟩ : ByteArray) = strOf [32, 32] := rfl
          rw [inset_succ, ← strOf_app, ← hA.out, ← e2] at h1
          exact h1
        have hsz : o.size + A.size + 2 + (strOf (qL l[i].ky)).size + 1 + (strOf (textL l[i].v)).size + 1 + (strOf (ensT (d + 1) l[i].kids)).size ≤ 100000000 := by
          rw [HI.out.2, hA.out, strOf_size, strOf_size, strOf_size, strOf_size, strOf_size]
          omega
        have HF : Hid (o ++ A ++ ⟨#[109, 32]⟩ ++ strOf (qL l[i].ky) ++ ⟨#[61]⟩ ++ strOf (textL l[i].v) ++ ⟨#[10]⟩ ++ strOf (ensT (d + 1) l[i].kids) = strOf (ensT d (l.take (i + 1)))) := by
          have e1 : (⟨#[109, 32]⟩ : ByteArray) = strOf [109, 32] := rfl
          have e2 : (⟨#[61]⟩ : ByteArray) = strOf [61] := rfl
          have e3 : (⟨#[10]⟩ : ByteArray) = strOf [10] := rfl
          rw [Hid, HI.out.2, hA.out, e1, e2, e3, strOf_app, strOf_app, strOf_app, strOf_app, strOf_app, strOf_app, strOf_app, HJ.out]
          congr 1
          unfold entT
          simp only [List.append_assoc, List.cons_append, List.nil_append]
        have T0 : Touch (fun _ => False) w0 wr := HI.out.1
        clear hca HA HG HB HI HJ hlen hent g1 g2 g3 g4 HIH HD hA HQ
        generalize l[i] = a at *
        obtain ⟨ky, ⟨vk, vn, vf, vs⟩, ⟨ra, rn, rc⟩, kids⟩ := a
        simp only [En.ky, En.v, En.raw, En.kids] at HX HQi HTi HRi HF hsz
        generalize strOf (qL ky) = q at *
        generalize strOf (textL (V.mk vk vn vf vs)) = tt at *
        generalize strOf (ensT (d + 1) kids) = rr at *
        have TD : Touch (fun _ => False) w0 wr.drew := T0.drew
        have S0 := HX.out _ TD
        have f1 : ¬ 9223372036854775807 < o.size + A.size := by omega
        have f2 : ¬ 9223372036854775807 < o.size + A.size + 2 := by omega
        have f3 : ¬ 9223372036854775807 < o.size + A.size + 2 + q.size := by omega
        have f4 : ¬ 9223372036854775807 < o.size + A.size + 2 + q.size + 1 := by omega
        have f5 : ¬ 9223372036854775807 < o.size + A.size + 2 + q.size + 1 + tt.size := by omega
        have f6 : ¬ 9223372036854775807 < o.size + A.size + 2 + q.size + 1 + tt.size + 1 := by omega
        have f7 : ¬ 9223372036854775807 < o.size + A.size + 2 + q.size + 1 + tt.size + 1 + rr.size := by omega
        have f8 : ¬ 9223372036854775807 < A.size + 2 := by omega
        clear hsz hAs
        go_upto_region 5 with fail
        go_region_held3 (fun W => W.cell? ⟨b, off + i * 6, none⟩ = some (.string ky) ∧ W.cell? ⟨b, off + i * 6 + 1, none⟩ = some (.int .i64 vk) ∧ W.cell? ⟨b, off + i * 6 + 2, none⟩ = some (.int .i64 vn) ∧ W.cell? ⟨b, off + i * 6 + 3, none⟩ = some (.float .f64 vf) ∧ W.cell? ⟨b, off + i * 6 + 4, none⟩ = some (.string vs) ∧ W.cell? ⟨b, off + i * 6 + 5, none⟩ = some (.slice ra rn rc)) (first | assumption)
          (first
            | (go_at_call 31; (with_reducible refine (HQi.out _).mono ?_); rintro e w1 ⟨rfl, t1⟩; have TT := Touch.trans (by assumption) t1; have S1 := HX.out w1 TT; clear t1)
            | (go_at_call 30; (with_reducible refine (HTi.out _).mono ?_); rintro e w1 ⟨rfl, t1⟩; have TT := Touch.trans (by assumption) t1; have S1 := HX.out w1 TT; clear t1)
            | (go_at_call 33; (with_reducible refine (HRi.out _ (by assumption)).mono ?_); rintro e w1 ⟨rfl, TT⟩; have S1 := HX.out w1 TT))
        all_goals (have TF := TT; have HG : Hid (Touch (fun _ => False) w0 w1) := TF; clear S0 S1 HQi HTi HRi TD TT TF HX T0 f1 f2 f3 f4 f5 f6 f7 f8)
        all_goals (try go_wp2_with fail)
        all_goals (go_roundg (l.length - (i + 1)))
        all_goals (first | (case measure => omega) | skip)
        all_goals exact ⟨i + 1, _, by omega, rfl, by go_num, HG.out, HF.out⟩
      · have : i = l.length := by omega
        subst this
        have HE : Hid (Touch (fun _ => False) w0 wr ∧ o = strOf (ensT d l)) := by
          have h := HI.out
          rw [List.take_length] at h
          exact h
        clear HI HA HG HB HIH HD hA HQ
        go_wp2_with fail
        go_ret
        exact ⟨by rw [← HE.out.2]; rfl, HE.out.1⟩
end Go.Proofs.YtijkekkjiboomaaGreatDoor

/- The document's Text and Plain. -/
namespace Go.Proofs.YtijkekkjiboomaaGreatDoor
open Go.RowKit Go.Maps
set_option linter.unusedVariables false
set_option linter.unusedSimpArgs false
set_option maxRecDepth 100000

theorem lineT_len (x : Rn) : (lineT x).length = (headT x).length + (x.ml.flatMap mkT).length := by unfold lineT; rw [List.length_append]
set_option maxHeartbeats 16000000 in
theorem qtext_any {w : World} {va vm : Value} {h : Nat} {L : List Rn} {M : List En} (hv : VwAt w va vm h L M) (hs : (viewT L M).length ≤ 10000000) :
    Calls Tryz.prog 11 #[.agg #[va, vm]] w fun e w' => e = .returned (.string (strOf (viewT L M))) ∧ Touch (fun _ => False) w w' := by
  obtain ⟨hr, ht, hml, hg, hd, -⟩ := hv
  obtain ⟨raw, hrw, hm⟩ := hr
  have hrl := hm.len
  obtain ⟨ao, cap, rfl, a1, a2, a3⟩ := hrw.shape
  obtain ⟨mo, mcap, rfl, -⟩ := hg.sl.shape
  have HA : Hid (raw ≠ [] → _) := hrw.at
  have HM : Hid (∀ j (h1 : j < raw.length) (h2 : j < L.length), MtR w raw[j] L[j]) := hm.get
  have HRL : Hid (raw.length = L.length) := hrl
  have hLl : L.length ≤ 9223372036854775807 := by omega
  have hsl : (viewT L M).length = (runsT L).length + (ensT 0 M).length := by unfold viewT; rw [List.length_append]
  have HS : Hid ((runsT L).length + (ensT 0 M).length ≤ 10000000) := by show _ ≤ _; omega
  have HTk : Hid (∀ x ∈ L, TakR x ∧ x.ml.length ≤ 1048576) := fun x hx => ⟨ht x hx, hml x hx⟩
  have HE : Hid (∀ W, Touch (fun _ => False) w W → Calls Tryz.prog 33 #[.slice mo M.length mcap, .string ⟨#[]⟩] W fun e w' => e = .returned (.string (strOf (ensT 0 M))) ∧ Touch (fun _ => False) w w') := fun W t => qentries_any h M _ 0 W hg t (by rw [insetT_len]; omega) (by omega)
  have HV : Hid (strOf (viewT L M) = strOf (runsT L) ++ strOf (ensT 0 M)) := by show _ = _; rw [strOf_app]; rfl
  obtain ⟨E, hE⟩ : ∃ E, Hid (E = w.alloc (.cells #[.slice ao raw.length cap, .slice mo M.length mcap] 25)) := ⟨w.alloc (.cells #[.slice ao raw.length cap, .slice mo M.length mcap] 25), Eq.refl _⟩
  obtain ⟨m, hmm⟩ : ∃ m, Hid (m = w.heap.size) := ⟨_, Eq.refl _⟩
  have tE : Touch (fun _ => False) w E := by rw [hE.out]; exact (Touch.refl _ _).alloc _
  have hbE : E.heap[m]? = some (.cells #[.slice ao raw.length cap, .slice mo M.length mcap] 25) := by rw [hE.out, hmm.out]; exact heap_alloc_new _ _
  have HBx : Hid (∀ W, Touch (fun _ => False) E W → (W.cell? ⟨m, 0, none⟩ = some (.slice ao L.length cap) ∧ W.cell? ⟨m, 1, none⟩ = some (.slice mo M.length mcap))) := fun W t => by
    have := viewO_cells (hkY t hbE)
    rw [HRL.out] at this
    exact this
  have HTE : Hid (Touch (fun _ => False) w E) := tE
  clear hrw hm hrl ht hml hg hs hsl tE hbE
  generalize strOf (viewT L M) = VT at *
  go_enter Tryz.func11, Tryz.ntmps11
  go_upto_region 1 with fail
  rw [← hE.out, ← hmm.out]
  clear hE hmm
  go_wp2_with fail
  go_loopg [3, 4] L.length (fun gk s3 s4 wr => ∃ (i : Nat) (o : ByteArray), i + gk = L.length ∧ s3 = .string o ∧ s4 = .int .i64 (i : Int) ∧ Hid (Touch (fun _ => False) E wr ∧ o = strOf (runsT (L.take i))))
  case atStart => exact ⟨0, _, by omega, rfl, rfl, Touch.refl _ _, rfl⟩
  case round =>
    obtain ⟨i, o, hig, rfl, rfl, HI⟩ := hrel
    by_cases hil : i < L.length
    · have hil2 : i < raw.length := by rw [HRL.out]; exact hil
      obtain ⟨g, off, rfl, -, hca⟩ := HA.out (by intro e; subst e; simp at hil2)
      have HX : Hid (∀ W, Touch (fun _ => False) w W → _) := fun W (t : Touch (fun _ => False) w W) => hca W t i hil2
      have hi1 : (0 : Int) ≤ (i : Int) := by omega
      have hi2 : (i : Int) < (L.length : Int) := by omega
      have hMt := HM.out i hil2 hil
      obtain ⟨hTk, hMl⟩ := HTk.out _ (List.getElem_mem hil)
      have HJ : Hid (runsT (L.take (i + 1)) = runsT (L.take i) ++ lineT L[i] ++ [10]) := runsT_take hil
      have hlen : (runsT (L.take i)).length + ((headT L[i]).length + (L[i].ml.flatMap mkT).length) + 1 ≤ 10000000 := by
        have h1 := congrArg List.length HJ.out
        have h2 := runsT_take_le L (i + 1)
        have h3 := HS.out
        rw [List.length_append, List.length_append, lineT_len] at h1
        have h4 : ([10] : List UInt8).length = 1 := rfl
        omega
      have HTv : Hid (raw[i].em = true → ∀ W, Calls Tryz.prog 30 #[.agg #[.int .i64 raw[i].vk, .int .i64 raw[i].vn, .float .f64 raw[i].vf, .string raw[i].vs]] W fun e w' => e = .returned (.string (strOf (textL L[i].v))) ∧ Touch (fun _ => False) W w') := fun he W => by
        have h1 := ref_text L[i].v (hTk.v (by rw [← hMt.em]; exact he)) (by have := hTk.s; omega) W
        have e1 : L[i].v = ⟨raw[i].vk, raw[i].vn, raw[i].vf, raw[i].vs⟩ := hMt.v.symm
        rw [e1] at h1 ⊢
        exact h1
      have HQt : Hid (∀ W, Calls Tryz.prog 31 #[.string raw[i].tx] W fun e w' => e = .returned (.string (strOf (qL L[i].tx))) ∧ Touch (fun _ => False) W w') := fun W => by
        have h1 := ref_quote L[i].tx (by have := hTk.t; omega) W
        rw [hMt.tx]
        exact h1
      have HMk : Hid (∀ W, Touch (fun _ => False) w W → Calls Tryz.prog 32 #[raw[i].ms.val] W fun e w' => e = .returned (.string (strOf (L[i].ml.flatMap mkT))) ∧ Touch (fun _ => False) W w') := fun W t => qmarks_any (hMt.ml.touch t) hTk.m (by omega)
      have HFe : Hid (raw[i].em = true → o ++ ⟨#[101, 32]⟩ ++ strOf (textL L[i].v) ++ strOf (L[i].ml.flatMap mkT) ++ ⟨#[10]⟩ = strOf (runsT (L.take (i + 1)))) := fun he => by
        have e1 : (⟨#[101, 32]⟩ : ByteArray) = strOf [101, 32] := rfl
        have e3 : (⟨#[10]⟩ : ByteArray) = strOf [10] := rfl
        rw [HI.out.2, e1, e3, strOf_app, strOf_app, strOf_app, strOf_app, HJ.out]
        congr 1
        unfold lineT headT
        rw [if_pos (by rw [← hMt.em]; exact he)]
        simp only [List.append_assoc, List.cons_append, List.nil_append]
      have HFt : Hid (raw[i].em = false → o ++ ⟨#[116, 32]⟩ ++ strOf (qL L[i].tx) ++ strOf (L[i].ml.flatMap mkT) ++ ⟨#[10]⟩ = strOf (runsT (L.take (i + 1)))) := fun he => by
        have e1 : (⟨#[116, 32]⟩ : ByteArray) = strOf [116, 32] := rfl
        have e3 : (⟨#[10]⟩ : ByteArray) = strOf [10] := rfl
        rw [HI.out.2, e1, e3, strOf_app, strOf_app, strOf_app, strOf_app, HJ.out]
        congr 1
        unfold lineT headT
        rw [if_neg (by rw [← hMt.em, he]; simp)]
        simp only [List.append_assoc, List.cons_append, List.nil_append]
      have hse : raw[i].em = true → o.size + 2 + (strOf (textL L[i].v)).size + (strOf (L[i].ml.flatMap mkT)).size + 1 ≤ 10000000 := fun he => by
        have e4 : (headT L[i]).length = 2 + (textL L[i].v).length := by unfold headT; rw [if_pos (by rw [← hMt.em]; exact he)]; simp; omega
        rw [HI.out.2, strOf_size, strOf_size, strOf_size]; omega
      have hst : raw[i].em = false → o.size + 2 + (strOf (qL L[i].tx)).size + (strOf (L[i].ml.flatMap mkT)).size + 1 ≤ 10000000 := fun he => by
        have e4 : (headT L[i]).length = 2 + (qL L[i].tx).length := by unfold headT; rw [if_neg (by rw [← hMt.em, he]; simp)]; simp; omega
        rw [HI.out.2, strOf_size, strOf_size, strOf_size]; omega
      have T0 : Hid (Touch (fun _ => False) E wr) := HI.out.1
      clear hca HA HM HI HJ hlen hMt hTk hMl HTk HS HRL
      generalize raw[i] = a at *
      obtain ⟨rtx, rem, rvk, rvn, rvf, rvs, ⟨rma, rmn, rmc⟩⟩ := a
      simp only at HX HTv HQt HMk HFe HFt hse hst
      generalize strOf (textL L[i].v) = tt at *
      generalize strOf (qL L[i].tx) = qq at *
      generalize strOf (L[i].ml.flatMap mkT) = ms at *
      obtain ⟨b0, b1⟩ := HBx.out _ T0.out
      obtain ⟨x0, x1, x2, x3, x4, x5, x6⟩ := HX.out _ (HTE.out.trans T0.out)
      cases rem with
      | true =>
        have hse := hse rfl
        have f1 : ¬ 9223372036854775807 < o.size + 2 := by omega
        have f2 : ¬ 9223372036854775807 < o.size + 2 + tt.size := by omega
        have f3 : ¬ 9223372036854775807 < o.size + 2 + tt.size + ms.size := by omega
        have f4 : ¬ 9223372036854775807 < o.size + 2 + tt.size + ms.size + 1 := by omega
        have HF := HFe.out rfl
        have HF2 : Hid (o ++ ⟨#[101, 32]⟩ ++ tt ++ ms ++ ⟨#[10]⟩ = strOf (runsT (L.take (i + 1)))) := HF
        have HT2 : Hid (∀ W, Calls Tryz.prog 30 #[.agg #[.int .i64 rvk, .int .i64 rvn, .float .f64 rvf, .string rvs]] W fun e w' => e = .returned (.string tt) ∧ Touch (fun _ => False) W w') := HTv.out rfl
        clear hse hst HF HFe HFt HTv HQt
        go_wp2_with fail
        refine (HT2.out _).mono ?_
        rintro e W1 ⟨rfl, t1⟩
        have T1 : Hid (Touch (fun _ => False) E W1) := T0.out.trans t1
        clear b0 b1 x0 x1 x2 x3 x4 x5 x6 t1 T0 HT2
        obtain ⟨b0, b1⟩ := HBx.out _ T1.out
        obtain ⟨x0, x1, x2, x3, x4, x5, x6⟩ := HX.out _ (HTE.out.trans T1.out)
        go_wp2_with fail
        refine (HMk.out _ (HTE.out.trans T1.out)).mono ?_
        rintro e W2 ⟨rfl, t2⟩
        have T2 : Hid (Touch (fun _ => False) E W2) := T1.out.trans t2
        clear b0 b1 x0 x1 x2 x3 x4 x5 x6 t2 T1 HMk HX
        go_wp2_with fail
        go_roundg (L.length - (i + 1))
        case measure => omega
        case rel => exact ⟨i + 1, _, by omega, rfl, by go_num, T2.out, HF2.out⟩
      | false =>
        have hst := hst rfl
        have f1 : ¬ 9223372036854775807 < o.size + 2 := by omega
        have f2 : ¬ 9223372036854775807 < o.size + 2 + qq.size := by omega
        have f3 : ¬ 9223372036854775807 < o.size + 2 + qq.size + ms.size := by omega
        have f4 : ¬ 9223372036854775807 < o.size + 2 + qq.size + ms.size + 1 := by omega
        have HF := HFt.out rfl
        have HF2 : Hid (o ++ ⟨#[116, 32]⟩ ++ qq ++ ms ++ ⟨#[10]⟩ = strOf (runsT (L.take (i + 1)))) := HF
        clear hse hst HF HFe HFt HTv
        go_wp2_with fail
        refine (HQt.out _).mono ?_
        rintro e W1 ⟨rfl, t1⟩
        have T1 : Hid (Touch (fun _ => False) E W1) := T0.out.trans t1
        clear b0 b1 x0 x1 x2 x3 x4 x5 x6 t1 T0 HQt
        obtain ⟨b0, b1⟩ := HBx.out _ T1.out
        obtain ⟨x0, x1, x2, x3, x4, x5, x6⟩ := HX.out _ (HTE.out.trans T1.out)
        go_wp2_with fail
        refine (HMk.out _ (HTE.out.trans T1.out)).mono ?_
        rintro e W2 ⟨rfl, t2⟩
        have T2 : Hid (Touch (fun _ => False) E W2) := T1.out.trans t2
        clear b0 b1 x0 x1 x2 x3 x4 x5 x6 t2 T1 HMk HX
        go_wp2_with fail
        go_roundg (L.length - (i + 1))
        case measure => omega
        case rel => exact ⟨i + 1, _, by omega, rfl, by go_num, T2.out, HF2.out⟩
    · have : i = L.length := by omega
      subst this
      have HF : Hid (Touch (fun _ => False) E wr ∧ o = strOf (runsT L)) := by
        have h := HI.out
        rw [List.take_length] at h
        exact h
      obtain ⟨b0, b1⟩ := HBx.out _ HF.out.1
      have f1 : ¬ 9223372036854775807 < o.size + (strOf (ensT 0 M)).size := by
        have := HS.out
        rw [HF.out.2, strOf_size, strOf_size]; omega
      have HC := HE.out _ (HTE.out.trans HF.out.1)
      have HR : Hid (VT = o ++ strOf (ensT 0 M)) := by rw [Hid, HV.out, HF.out.2]
      clear HI HA HM HTk HS HRL HE HF HV
      generalize strOf (ensT 0 M) = em at *
      have HC2 : Hid (Calls Tryz.prog 33 #[.slice mo M.length mcap, .string ⟨#[]⟩] wr fun e w' => e = .returned (.string em) ∧ Touch (fun _ => False) w w') := HC
      clear HC
      go_wp2_with fail
      refine HC2.out.mono ?_
      rintro e W1 ⟨rfl, t1⟩
      have T1 : Hid (Touch (fun _ => False) w W1) := t1
      clear t1 HC2 b0 b1
      go_wp2_with fail
      go_ret
      exact ⟨by rw [HR.out]; rfl, T1.out⟩
end Go.Proofs.YtijkekkjiboomaaGreatDoor

/- The document's Plain. -/
namespace Go.Proofs.YtijkekkjiboomaaGreatDoor
open Go.RowKit Go.Maps
set_option linter.unusedVariables false
set_option linter.unusedSimpArgs false
set_option maxRecDepth 100000

set_option maxHeartbeats 16000000 in
theorem qplain_any {w : World} {va : Value} {vo : Option Addr} {vn vc : Nat} {L : List Rn} (hr : SlRn w va L) (hs : (plainT L).length ≤ 10000000) :
    Calls Tryz.prog 15 #[.agg #[va, .slice vo vn vc]] w fun e w' => e = .returned (.string (strOf (plainT L))) ∧ Touch (fun _ => False) w w' := by
  obtain ⟨raw, hrw, hm⟩ := hr
  have hrl := hm.len
  obtain ⟨ao, cap, rfl, a1, a2, a3⟩ := hrw.shape
  have HA : Hid (raw ≠ [] → _) := hrw.at
  have HM : Hid (∀ j (h1 : j < raw.length) (h2 : j < L.length), MtR w raw[j] L[j]) := hm.get
  have HRL : Hid (raw.length = L.length) := hrl
  have hLl : L.length ≤ 9223372036854775807 := by omega
  have HS : Hid ((plainT L).length ≤ 10000000) := hs
  obtain ⟨E, hE⟩ : ∃ E, Hid (E = w.alloc (.cells #[.slice ao raw.length cap, .slice vo vn vc] 25)) := ⟨w.alloc (.cells #[.slice ao raw.length cap, .slice vo vn vc] 25), Eq.refl _⟩
  obtain ⟨m, hmm⟩ : ∃ m, Hid (m = w.heap.size) := ⟨_, Eq.refl _⟩
  have tE : Touch (fun _ => False) w E := by rw [hE.out]; exact (Touch.refl _ _).alloc _
  have hbE : E.heap[m]? = some (.cells #[.slice ao raw.length cap, .slice vo vn vc] 25) := by rw [hE.out, hmm.out]; exact heap_alloc_new _ _
  have HBx : Hid (∀ W, Touch (fun _ => False) E W → W.cell? ⟨m, 0, none⟩ = some (.slice ao L.length cap)) := fun W t => by
    have := (viewO_cells (hkY t hbE)).1
    rw [HRL.out] at this
    exact this
  have HTE : Hid (Touch (fun _ => False) w E) := tE
  clear hrw hm hrl hs tE hbE
  go_enter Tryz.func15, Tryz.ntmps15
  go_upto_region 1 with fail
  rw [← hE.out, ← hmm.out]
  clear hE hmm
  go_wp2_with fail
  go_loopg [3, 4] L.length (fun gk s3 s4 wr => ∃ (i : Nat) (o : ByteArray), i + gk = L.length ∧ s3 = .string o ∧ s4 = .int .i64 (i : Int) ∧ Hid (Touch (fun _ => False) E wr ∧ o = strOf (plainT (L.take i))))
  case atStart => exact ⟨0, _, by omega, rfl, rfl, Touch.refl _ _, rfl⟩
  case round =>
    obtain ⟨i, o, hig, rfl, rfl, HI⟩ := hrel
    by_cases hil : i < L.length
    · have hil2 : i < raw.length := by rw [HRL.out]; exact hil
      obtain ⟨g, off, rfl, -, hca⟩ := HA.out (by intro e; subst e; simp at hil2)
      have HX : Hid (∀ W, Touch (fun _ => False) w W → _) := fun W (t : Touch (fun _ => False) w W) => hca W t i hil2
      have hi1 : (0 : Int) ≤ (i : Int) := by omega
      have hi2 : (i : Int) < (L.length : Int) := by omega
      have hMt := HM.out i hil2 hil
      have HJ : Hid (plainT (L.take (i + 1)) = plainT (L.take i) ++ plainR L[i]) := plainT_take hil
      have hlen : (plainT (L.take i)).length + (plainR L[i]).length ≤ 10000000 := by
        have h1 := congrArg List.length HJ.out
        have h2 := plainT_take_le L (i + 1)
        have h3 := HS.out
        rw [List.length_append] at h1
        omega
      have HFe : Hid (raw[i].em = true → o ++ ⟨#[239, 191, 188]⟩ = strOf (plainT (L.take (i + 1))) ∧ o.size + 3 ≤ 10000000) := fun he => by
        have ep : plainR L[i] = [239, 191, 188] := by unfold plainR; rw [if_pos (by rw [← hMt.em]; exact he)]
        have e1 : (⟨#[239, 191, 188]⟩ : ByteArray) = strOf [239, 191, 188] := rfl
        rw [ep] at hlen
        have h3 : ([239, 191, 188] : List UInt8).length = 3 := rfl
        refine ⟨by rw [HI.out.2, e1, strOf_app, HJ.out, ep], by rw [HI.out.2, strOf_size]; omega⟩
      have HFt : Hid (raw[i].em = false → o ++ raw[i].tx = strOf (plainT (L.take (i + 1))) ∧ o.size + raw[i].tx.size ≤ 10000000) := fun he => by
        have ep : plainR L[i] = raw[i].tx.data.toList := by unfold plainR; rw [if_neg (by rw [← hMt.em, he]; simp), hMt.tx]
        rw [ep] at hlen
        have h3 : raw[i].tx.data.toList.length = raw[i].tx.size := by rw [Array.length_toList]; rfl
        refine ⟨by rw [HI.out.2, HJ.out, ep, ← strOf_app, strOf_self], by rw [HI.out.2, strOf_size]; omega⟩
      have T0 : Hid (Touch (fun _ => False) E wr) := HI.out.1
      clear hca HA HM HI HJ hlen hMt HS HRL
      generalize raw[i] = a at *
      obtain ⟨rtx, rem, rvk, rvn, rvf, rvs, ⟨rma, rmn, rmc⟩⟩ := a
      simp only at HX HFe HFt
      have b0 := HBx.out _ T0.out
      obtain ⟨x0, x1, x2, x3, x4, x5, x6⟩ := HX.out _ (HTE.out.trans T0.out)
      cases rem with
      | true =>
        obtain ⟨hf1, hf2⟩ := HFe.out rfl
        have HF : Hid (o ++ ⟨#[239, 191, 188]⟩ = strOf (plainT (L.take (i + 1)))) := hf1
        have f1 : ¬ 9223372036854775807 < o.size + 3 := by omega
        clear hf1 hf2 HFe HFt HX
        go_wp2_with fail
        go_roundg (L.length - (i + 1))
        case measure => omega
        case rel => exact ⟨i + 1, _, by omega, rfl, by go_num, T0.out, HF.out⟩
      | false =>
        obtain ⟨hf1, hf2⟩ := HFt.out rfl
        have HF : Hid (o ++ rtx = strOf (plainT (L.take (i + 1)))) := hf1
        have f1 : ¬ 9223372036854775807 < o.size + rtx.size := by omega
        clear hf1 hf2 HFe HFt HX
        go_wp2_with fail
        go_roundg (L.length - (i + 1))
        case measure => omega
        case rel => exact ⟨i + 1, _, by omega, rfl, by go_num, T0.out, HF.out⟩
    · have : i = L.length := by omega
      subst this
      have HF : Hid (Touch (fun _ => False) E wr ∧ o = strOf (plainT L)) := by
        have h := HI.out
        rw [List.take_length] at h
        exact h
      have b0 := HBx.out _ HF.out.1
      clear HI HA HM HS HRL
      go_wp2_with fail
      go_ret
      exact ⟨by rw [← HF.out.2]; rfl, HTE.out.trans HF.out.1⟩
end Go.Proofs.YtijkekkjiboomaaGreatDoor
