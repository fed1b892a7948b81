/- The document's texts of entries. -/
import Derived.Test.YtodpdcflbnomgaaGreatPart25
import Derived.BigQuiet
import Derived.Deep.RegionHeld3
import Derived.Deep.LoopGhost
import Derived.Deep.Cut
import Derived.Deep.CutBlock
import Derived.Laws.Concat
namespace Go.Proofs.YtodpdcflbnomgaaGreat
open Go.RowKit Go.Maps
set_option linter.unusedVariables false
set_option linter.unusedSimpArgs false
set_option maxRecDepth 100000

set_option maxHeartbeats 16000000 in
theorem qentries_any {w0 : World} {S : Nat → Prop} : ∀ (h : Nat) (l : List Et) (v : Value) (d : Nat) (w : World), EtAt w0 S h v l → OkEs h l → Touch (fun _ => False) w0 w → (insetT (d + h)).length ≤ 100000 → (etsT d l).length ≤ 1000000000000000 →
    Calls Tryz.prog 59 #[v, .string (strOf (insetT d))] w fun e w' => e = .returned (.string (strOf (etsT d l))) ∧ Touch (fun _ => False) w0 w' := by
  intro h
  induction h with
  | zero =>
    intro l v d w g hok t hd hb
    obtain ⟨rfl, hsl⟩ := g
    obtain ⟨ao, cap, rfl, -⟩ := hsl.sl.shape
    have HQ : Hid (Touch (fun _ => False) w0 w) := t
    clear hsl hok t hb hd
    generalize strOf (insetT d) = A at *
    have HE : Hid (strOf (etsT d []) = ⟨#[]⟩) := rfl
    generalize strOf (etsT d []) = R at *
    go_enter Tryz.func59, Tryz.ntmps59
    have e0 : (([] : List Et).length : Int) = 0 := rfl
    go_wp2_with fail
    go_loopg [5, 6] 0 (fun gk s5 s6 wr => s5 = .string ⟨#[]⟩ ∧ s6 = .int .i64 0 ∧ Hid (Touch (fun _ => False) w0 wr))
    case atStart => exact ⟨rfl, rfl, HQ.out⟩
    case round =>
      obtain ⟨rfl, rfl, HI⟩ := hrel
      go_wp2_with fail
      go_ret
      exact ⟨by rw [HE.out]; rfl, HI.out⟩
  | succ h ih =>
    intro l v d w g hg t hd hb
    obtain ⟨raws0, ⟨ao, cap, e0, -, hll0, hll1, -⟩, hl0, -⟩ := id g
    have hll : l.length ≤ 9223372036854775807 := by rw [← hl0]; omega
    rw [hl0] at e0
    subst e0
    have HA : Hid (EtAt w0 S (h + 1) (.slice ao l.length cap) l) := g
    have HG : Hid (∀ e ∈ l, V.fits e.v ∧ e.v.s.size ≤ 1048576 ∧ e.ky.size ≤ 1048576 ∧ OkEs h e.kids) := hg
    have HB : Hid ((etsT d l).length ≤ 1000000000000000) := hb
    have HQ : Hid (Touch (fun _ => False) w0 w) := t
    have HIH : Hid (∀ (l : List Et) (v : Value) (d : Nat) (w : World), EtAt w0 S h v l → OkEs h l → Touch (fun _ => False) w0 w → (insetT (d + h)).length ≤ 100000 → (etsT d l).length ≤ 1000000000000000 → Calls Tryz.prog 59 #[v, .string (strOf (insetT d))] w fun e w' => e = .returned (.string (strOf (etsT d l))) ∧ Touch (fun _ => False) w0 w') := ih
    have HD : Hid ((insetT (d + 1 + h)).length ≤ 100000) := by show _ ≤ _; rw [show d + 1 + h = d + (h + 1) from by omega]; exact hd
    obtain ⟨A, hA⟩ : ∃ A, Hid (A = strOf (insetT d)) := ⟨_, Eq.refl _⟩
    have hAs : A.size ≤ 100000 := by
      rw [hA.out, strOf_size, insetT_len]
      rw [insetT_len] at hd
      omega
    rw [← hA.out]
    clear g hll0 hll1 hl0 t hb hg ih hd
    go_enter Tryz.func59, Tryz.ntmps59
    go_wp2_with fail
    go_loopg [5, 6] l.length (fun gk s5 s6 wr => ∃ (i : Nat) (o : ByteArray), i + gk = l.length ∧ s5 = .string o ∧ s6 = .int .i64 (i : Int) ∧ Hid (Touch (fun _ => False) w0 wr ∧ o = strOf (etsT d (l.take i))))
    case atStart => exact ⟨0, _, by omega, rfl, rfl, HQ.out, rfl⟩
    case round =>
      obtain ⟨i, o, hig, rfl, rfl, HI⟩ := hrel
      by_cases hil : i < l.length
      · obtain ⟨b, off, rks, rfl, hkids, hca⟩ := HA.out.at hil
        have HX : Hid (∀ W, Touch (fun _ => False) w0 W → _) := fun W (t : Touch (fun _ => False) w0 W) => hca W t
        have hi1 : (0 : Int) ≤ (i : Int) := by omega
        have hi2 : (i : Int) < (l.length : Int) := by omega
        obtain ⟨g1, g2, g3, g4⟩ := HG.out _ (List.getElem_mem hil)
        have HJ : Hid (etsT d (l.take (i + 1)) = etsT d (l.take i) ++ (entT d l[i].ky l[i].v ++ [10] ++ etsT (d + 1) l[i].kids)) := by
          show _ = _
          rw [etsT_take hil, etT_eq]
        have hlen : (etsT d (l.take i)).length + ((entT d l[i].ky l[i].v).length + 1 + (etsT (d + 1) l[i].kids).length) ≤ 1000000000000000 := by
          have h1 := congrArg List.length HJ.out
          have h2 := etsT_take_le d l (i + 1)
          have h3 := HB.out
          rw [List.length_append, List.length_append, List.length_append] at h1
          have h4 : ([10] : List UInt8).length = 1 := rfl
          omega
        have hent : (entT d l[i].ky l[i].v).length = (insetT d).length + 2 + (qL l[i].ky).length + 1 + (textL l[i].v).length := by
          unfold entT; simp only [List.length_append, List.length_cons, List.length_nil]; omega
        have HQi : Hid (∀ W, Calls Tryz.prog 57 #[.string l[i].ky] W fun e w' => e = .returned (.string (strOf (qL l[i].ky))) ∧ Touch (fun _ => False) W w') := fun W => ref_quote l[i].ky (by omega) W
        have HTi : Hid (∀ W, Calls Tryz.prog 56 #[.agg #[.int .i64 l[i].v.k, .int .i64 l[i].v.n, .float .f64 l[i].v.f, .string l[i].v.s]] W fun e w' => e = .returned (.string (strOf (textL l[i].v))) ∧ Touch (fun _ => False) W w') := fun W => ref_text l[i].v g1 (by omega) W
        have HRi : Hid (∀ W, Touch (fun _ => False) w0 W → Calls Tryz.prog 59 #[rks.val, .string (A ++ ⟨#[32, 32]⟩)] W fun e w' => e = .returned (.string (strOf (etsT (d + 1) l[i].kids))) ∧ Touch (fun _ => False) w0 w') := fun W t => by
          have h1 := HIH.out l[i].kids rks.val (d + 1) W hkids g4 t HD.out (by omega)
          have e2 : (⟨#[32, 32]⟩ : ByteArray) = strOf [32, 32] := rfl
          rw [inset_succ, ← strOf_app, ← hA.out, ← e2] at h1
          exact h1
        have hsz : o.size + A.size + 2 + (strOf (qL l[i].ky)).size + 1 + (strOf (textL l[i].v)).size + 1 + (strOf (etsT (d + 1) l[i].kids)).size ≤ 1000000000000000 := by
          rw [HI.out.2, hA.out, strOf_size, strOf_size, strOf_size, strOf_size, strOf_size]
          omega
        have HF : Hid (o ++ A ++ ⟨#[109, 32]⟩ ++ strOf (qL l[i].ky) ++ ⟨#[61]⟩ ++ strOf (textL l[i].v) ++ ⟨#[10]⟩ ++ strOf (etsT (d + 1) l[i].kids) = strOf (etsT d (l.take (i + 1)))) := by
          have e1 : (⟨#[109, 32]⟩ : ByteArray) = strOf [109, 32] := rfl
          have e2 : (⟨#[61]⟩ : ByteArray) = strOf [61] := rfl
          have e3 : (⟨#[10]⟩ : ByteArray) = strOf [10] := rfl
          rw [Hid, HI.out.2, hA.out, e1, e2, e3, strOf_app, strOf_app, strOf_app, strOf_app, strOf_app, strOf_app, strOf_app, HJ.out]
          congr 1
          unfold entT
          simp only [List.append_assoc, List.cons_append, List.nil_append]
        have T0 : Touch (fun _ => False) w0 wr := HI.out.1
        clear hca hkids HA HG HB HI HJ hlen hent g1 g2 g3 g4 HIH HD hA HQ
        generalize l[i] = a at *
        obtain ⟨ky, ⟨vk, vn, vf, vs⟩, kids⟩ := a
        obtain ⟨ra, rn, rc⟩ := rks
        simp only [Et.ky, Et.v, Et.kids] at HX HQi HTi HRi HF hsz
        generalize strOf (qL ky) = q at *
        generalize strOf (textL (V.mk vk vn vf vs)) = tt at *
        generalize strOf (etsT (d + 1) kids) = rr at *
        have TD : Touch (fun _ => False) w0 wr.drew := T0.drew
        have S0 := HX.out _ TD
        have f1 : ¬ 9223372036854775807 < o.size + A.size := by omega
        have f2 : ¬ 9223372036854775807 < o.size + A.size + 2 := by omega
        have f3 : ¬ 9223372036854775807 < o.size + A.size + 2 + q.size := by omega
        have f4 : ¬ 9223372036854775807 < o.size + A.size + 2 + q.size + 1 := by omega
        have f5 : ¬ 9223372036854775807 < o.size + A.size + 2 + q.size + 1 + tt.size := by omega
        have f6 : ¬ 9223372036854775807 < o.size + A.size + 2 + q.size + 1 + tt.size + 1 := by omega
        have f7 : ¬ 9223372036854775807 < o.size + A.size + 2 + q.size + 1 + tt.size + 1 + rr.size := by omega
        have f8 : ¬ 9223372036854775807 < A.size + 2 := by omega
        clear hsz hAs
        go_upto_region 5 with fail
        go_region_held3 (fun W => W.cell? ⟨b, off + i * 6, none⟩ = some (.string ky) ∧ W.cell? ⟨b, off + i * 6 + 1, none⟩ = some (.int .i64 vk) ∧ W.cell? ⟨b, off + i * 6 + 2, none⟩ = some (.int .i64 vn) ∧ W.cell? ⟨b, off + i * 6 + 3, none⟩ = some (.float .f64 vf) ∧ W.cell? ⟨b, off + i * 6 + 4, none⟩ = some (.string vs) ∧ W.cell? ⟨b, off + i * 6 + 5, none⟩ = some (.slice ra rn rc)) (first | assumption)
          (first
            | (go_at_call 57; (with_reducible refine (HQi.out _).mono ?_); rintro e w1 ⟨rfl, t1⟩; have TT := Touch.trans (by assumption) t1; have S1 := HX.out w1 TT; clear t1)
            | (go_at_call 56; (with_reducible refine (HTi.out _).mono ?_); rintro e w1 ⟨rfl, t1⟩; have TT := Touch.trans (by assumption) t1; have S1 := HX.out w1 TT; clear t1)
            | (go_at_call 59; (with_reducible refine (HRi.out _ (by assumption)).mono ?_); rintro e w1 ⟨rfl, TT⟩; have S1 := HX.out w1 TT))
        all_goals (have TF := TT; have HG : Hid (Touch (fun _ => False) w0 w1) := TF; clear S0 S1 HQi HTi HRi TD TT TF HX T0 f1 f2 f3 f4 f5 f6 f7 f8)
        all_goals (try go_wp2_with fail)
        all_goals (go_roundg (l.length - (i + 1)))
        all_goals (first | (case measure => omega) | skip)
        all_goals exact ⟨i + 1, _, by omega, rfl, by go_num, HG.out, HF.out⟩
      · have : i = l.length := by omega
        subst this
        have HE : Hid (Touch (fun _ => False) w0 wr ∧ o = strOf (etsT d l)) := by
          have h := HI.out
          rw [List.take_length] at h
          exact h
        clear HI HA HG HB HIH HD hA HQ
        go_wp2_with fail
        go_ret
        exact ⟨by rw [← HE.out.2]; rfl, HE.out.1⟩
end Go.Proofs.YtodpdcflbnomgaaGreat

/- The document's text of a view of entries alone, and quirelaw12's text. -/
namespace Go.Proofs.YtodpdcflbnomgaaGreat
open Go.RowKit Go.Maps
set_option linter.unusedVariables false
set_option linter.unusedSimpArgs false
set_option maxRecDepth 100000

theorem viewOnly_cells {W : World} {m : Nat} {mo : Option Addr} {n cap : Nat} (h : W.heap[m]? = some (.cells #[.slice none 0 0, .slice mo n cap] 82)) : W.cell? ⟨m, 0, none⟩ = some (.slice none 0 0) ∧ W.cell? ⟨m, 1, none⟩ = some (.slice mo n cap) :=
  ⟨by rw [cell_of_block h]; rfl, by rw [cell_of_block h]; rfl⟩
set_option maxHeartbeats 16000000 in
theorem qtext_any {w : World} {S : Nat → Prop} {v : Value} {h : Nat} {l : List Et} (hg : EtAt w S h v l) (hok : OkEs h l) (hh : h ≤ 50000) (hb : (etsT 0 l).length ≤ 1000000000000000) :
    Calls Tryz.prog 36 #[.agg #[.slice none 0 0, v]] w fun e w' => e = .returned (.string (strOf (etsT 0 l))) ∧ Touch (fun _ => False) w w' := by
  obtain ⟨mo, n, mcap, rfl⟩ : ∃ mo n cap, v = .slice mo n cap := by
    cases h with
    | zero => obtain ⟨ao, cap, e, -⟩ := hg.2; exact ⟨_, _, _, e⟩
    | succ h => obtain ⟨raws, ⟨ao, cap, e, -⟩, -⟩ := hg; exact ⟨_, _, _, e⟩
  have HE : Hid (∀ W, Touch (fun _ => False) w W → Calls Tryz.prog 59 #[.slice mo n mcap, .string ⟨#[]⟩] W fun e w' => e = .returned (.string (strOf (etsT 0 l))) ∧ Touch (fun _ => False) w w') := fun W t => qentries_any h l _ 0 W hg hok t (by rw [insetT_len]; omega) hb
  obtain ⟨E, hE⟩ : ∃ E, Hid (E = w.alloc (.cells #[.slice none 0 0, .slice mo n mcap] 82)) := ⟨w.alloc (.cells #[.slice none 0 0, .slice mo n mcap] 82), Eq.refl _⟩
  obtain ⟨m, hmm⟩ : ∃ m, Hid (m = w.heap.size) := ⟨_, Eq.refl _⟩
  have tE : Touch (fun _ => False) w E := by rw [hE.out]; exact (Touch.refl _ _).alloc _
  have hbE : E.heap[m]? = some (.cells #[.slice none 0 0, .slice mo n mcap] 82) := by rw [hE.out, hmm.out]; exact heap_alloc_new _ _
  obtain ⟨b0, b1⟩ := viewOnly_cells hbE
  have HTE : Hid (Touch (fun _ => False) w E) := tE
  have hsz : (strOf (etsT 0 l)).size ≤ 1000000000000000 := by rw [strOf_size]; exact hb
  clear hg hok hh hb tE hbE
  generalize strOf (etsT 0 l) = VT at *
  have f1 : ¬ 9223372036854775807 < (ByteArray.mk #[]).size + VT.size := by
    have : (ByteArray.mk #[]).size = 0 := rfl
    omega
  have HV : Hid (ByteArray.mk #[] ++ VT = VT) := by rw [Hid]; apply bytes_ext; rw [append_data]; rfl
  go_enter Tryz.func36, Tryz.ntmps36
  go_upto_region 1 with fail
  rw [← hE.out, ← hmm.out]
  clear hE hmm
  go_wp2_with fail
  go_loopg [3, 4] 0 (fun gk s3 s4 wr => s3 = .string ⟨#[]⟩ ∧ s4 = .int .i64 0 ∧ wr = E)
  case atStart => exact ⟨rfl, rfl, rfl⟩
  case round =>
    obtain ⟨rfl, rfl, rfl⟩ := hrel
    have HC2 : Hid (Calls Tryz.prog 59 #[.slice mo n mcap, .string ⟨#[]⟩] wr fun e w' => e = .returned (.string VT) ∧ Touch (fun _ => False) w w') := HE.out _ HTE.out
    clear HE
    go_wp2_with fail
    refine HC2.out.mono ?_
    rintro e W1 ⟨rfl, t1⟩
    have T1 : Hid (Touch (fun _ => False) w W1) := t1
    clear t1 HC2 b0 b1
    go_wp2_with fail
    go_ret
    exact ⟨by first | rfl | (rw [HV.out]; rfl), T1.out⟩
set_option maxHeartbeats 16000000 in
theorem text_any {w : World} {S : Nat → Prop} {v : Value} {h : Nat} {l : List Et} (hg : EtAt w S h v l) (hok : OkEs h l) (hh : h ≤ 50000) (hb : (etsT 0 l).length ≤ 1000000000000000) :
    Calls Tryz.prog 20 #[v] w fun e w' => e = .returned (.string (strOf (etsT 0 l))) ∧ Touch (fun _ => False) w w' := by
  have HQ : Hid (Calls Tryz.prog 36 #[.agg #[.slice none 0 0, v]] w fun e w' => e = .returned (.string (strOf (etsT 0 l))) ∧ Touch (fun _ => False) w w') := qtext_any hg hok hh hb
  obtain ⟨mo, n, mcap, rfl⟩ : ∃ mo n cap, v = .slice mo n cap := by
    cases h with
    | zero => obtain ⟨ao, cap, e, -⟩ := hg.2; exact ⟨_, _, _, e⟩
    | succ h => obtain ⟨raws, ⟨ao, cap, e, -⟩, -⟩ := hg; exact ⟨_, _, _, e⟩
  clear hg hok hb
  generalize strOf (etsT 0 l) = VT at *
  go_enter Tryz.func20, Tryz.ntmps20
  go_wp2_with fail
  refine HQ.out.mono ?_
  rintro e W1 ⟨rfl, t1⟩
  go_wp2_with fail
  go_ret
  exact ⟨rfl, t1⟩
end Go.Proofs.YtodpdcflbnomgaaGreat
