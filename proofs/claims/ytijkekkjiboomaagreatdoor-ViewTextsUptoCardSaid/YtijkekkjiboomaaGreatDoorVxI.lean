/- Views: runs that are looked at (quirelaw14.light). -/
import Derived.Test.YtijkekkjiboomaaGreatDoorPart21
import Derived.Test.YtijkekkjiboomaaGreatDoorVxE
import Derived.Test.YtijkekkjiboomaaGreatDoorRef2c
namespace Go.Proofs.YtijkekkjiboomaaGreatDoor
open Go.RowKit Go.Maps
set_option linter.unusedVariables false
set_option linter.unusedSimpArgs false
set_option maxRecDepth 100000

def wtm (m : Mk) : Nat := m.ky.size + m.vs.size
def wtx (x : Rn) : Nat := 1 + x.tx.size + x.v.s.size + 3 * x.ml.length + (x.ml.map wtm).sum
def wtL (L : List Rn) : Nat := (L.map wtx).sum
/-- A run that passes. -/
structure OkX (x : Rn) : Prop where
  t : (runesOf x.tx.data.toList).isSome = true
  e : x.em = true → x.tx = ⟨#[]⟩
  v : refCheck x.v = 0
  k : x.em = false → x.v.k = 0
  m : ∀ m ∈ x.ml, refCheck m.v = 0
structure LightP (L : List Rn) : Prop where
  len : L.length ≤ 100
  ok : ∀ x ∈ L, OkX x
  wt : wtL L ≤ 2000
theorem wtL_take {L : List Rn} {i : Nat} (h : i < L.length) : wtL (L.take (i + 1)) = wtL (L.take i) + wtx L[i] := by
  unfold wtL
  rw [List.take_succ_eq_append_getElem h, List.map_append, List.sum_append]; simp
theorem wtL_take_le (L : List Rn) (i : Nat) : wtL (L.take i) ≤ wtL L := by
  have e : L = L.take i ++ L.drop i := (List.take_append_drop i L).symm
  conv => rhs; rw [e]
  unfold wtL
  rw [List.map_append, List.sum_append]; omega
def wtM (l : List Mk) : Nat := (l.map wtm).sum
theorem wtM_take {l : List Mk} {i : Nat} (h : i < l.length) : wtM (l.take (i + 1)) = wtM (l.take i) + wtm l[i] := by
  unfold wtM
  rw [List.take_succ_eq_append_getElem h, List.map_append, List.sum_append]; simp
theorem wtM_take_le (l : List Mk) (i : Nat) : wtM (l.take i) ≤ wtM l := by
  have e : l = l.take i ++ l.drop i := (List.take_append_drop i l).symm
  conv => rhs; rw [e]
  unfold wtM
  rw [List.map_append, List.sum_append]; omega
theorem take_mem {α : Type} {l : List α} {i : Nat} (h : i < l.length) {P : α → Prop} (h1 : ∀ x ∈ l.take i, P x) (h2 : P l[i]) : ∀ x ∈ l.take (i + 1), P x := fun x hx => by
  rw [List.take_succ_eq_append_getElem h] at hx
  rcases List.mem_append.1 hx with hx | hx
  · exact h1 x hx
  · rw [List.mem_singleton.1 hx]; exact h2
theorem bytes_nil {s : ByteArray} (h : (s.toList == []) = true) : s = ⟨#[]⟩ := by
  rw [ByteArray.toList_eq] at h
  have : s.data.toList = [] := by simpa using h
  exact ByteArray.ext (Array.ext' this)
/-- What light answers. -/
def LtPost (L : List Rn) (w : World) (e : Ending) (w' : World) : Prop := ∃ r, e = .returned (.bool r) ∧ (r = true → LightP L) ∧ Touch (fun _ => False) w w'
set_option maxHeartbeats 32000000 in
theorem light_any {w : World} {va : Value} {L : List Rn} (hr : SlRn w va L) (hb : wtL L ≤ 100000000) :
    Calls Tryz.prog 9 #[va] w (LtPost L w) := by
  obtain ⟨raw, hrw, hm⟩ := hr
  have hrl := hm.len
  obtain ⟨ao, cap, rfl, a1, a2, a3⟩ := hrw.shape
  have HA : Hid (raw ≠ [] → _) := hrw.at
  have HM : Hid (∀ j (h1 : j < raw.length) (h2 : j < L.length), MtR w raw[j] L[j]) := hm.get
  have HRL : Hid (raw.length = L.length) := hrl
  have hLl : L.length ≤ 9223372036854775807 := by omega
  have HB : Hid (wtL L ≤ 100000000) := hb
  have H0 : Hid (Touch (fun _ => False) w w) := Touch.refl _ _
  clear hrw hm hrl hb
  rw [HRL.out]
  go_enter Tryz.func9, Tryz.ntmps9
  go_wp2_with fail
  go_loopg [3, 4] L.length (fun gk s3 s4 wr => ∃ (i n : Nat), i + gk = L.length ∧ s3 = .int .i64 (n : Int) ∧ s4 = .int .i64 (i : Int) ∧ Hid (Touch (fun _ => False) w wr ∧ n = wtL (L.take i) ∧ ∀ x ∈ L.take i, OkX x))
  case atStart => exact ⟨0, 0, by omega, rfl, rfl, H0.out, rfl, fun x hx => by simp at hx⟩
  case round =>
    obtain ⟨i, n, hig, rfl, rfl, HI⟩ := hrel
    have hnb : n ≤ 100000000 := by have h1 := HI.out.2.1; have h2 := wtL_take_le L i; have h3 := HB.out; omega
    by_cases hil : i < L.length
    · by_cases hn : n ≤ 2000
      · have hil2 : i < raw.length := by rw [HRL.out]; exact hil
        obtain ⟨g, o, rfl, -, hca⟩ := HA.out (by intro e; subst e; simp at hil2)
        have HX : Hid (∀ W, Touch (fun _ => False) w W → _) := fun W (t : Touch (fun _ => False) w W) => hca W t i hil2
        have hMt := HM.out i hil2 hil
        have hi0 : (0 : Int) ≤ (i : Int) := by omega
        have hi2 : (i : Int) < (L.length : Int) := by omega
        have hn2 : (n : Int) ≤ 2000 := by omega
        have HWt : Hid (wtL (L.take (i + 1)) = n + wtx L[i]) := by rw [Hid, HI.out.2.1]; exact wtL_take hil
        have hwx : n + wtx L[i] ≤ 100000000 := by have h1 := HWt.out; have h2 := wtL_take_le L (i + 1); have h3 := HB.out; omega
        have HNx : Hid (OkX L[i] → ∀ x ∈ L.take (i + 1), OkX x) := fun h => take_mem hil HI.out.2.2 h
        have T0 : Hid (Touch (fun _ => False) w wr) := HI.out.1
        obtain ⟨mo, mc, esl, m1, m2, m3⟩ := hMt.ml.shape
        have HAm : Hid (L[i].ml ≠ [] → _) := (by have := hMt.ml; rw [esl] at this; exact this.at)
        have e1 := hMt.tx
        have e2 := hMt.em
        have e3 := hMt.v
        clear hca HA HM HI HRL hMt
        generalize raw[i] = a at *
        generalize L[i] = x at *
        obtain ⟨rtx, rem, rvk, rvn, rvf, rvs, ⟨rma, rmn, rmc⟩⟩ := a
        obtain ⟨xtx, xem, xv, ml⟩ := x
        simp only [Value.slice.injEq] at HX e1 e2 e3 esl hwx HAm HNx HWt m1 m2 m3
        subst e1 e2 e3
        obtain ⟨rfl, rfl, rfl⟩ := esl
        have hwx2 : wtx ⟨rtx, rem, ⟨rvk, rvn, rvf, rvs⟩, ml⟩ = 1 + rtx.size + rvs.size + 3 * ml.length + wtM ml := rfl
        have hwx : n + wtx ⟨rtx, rem, ⟨rvk, rvn, rvf, rvs⟩, ml⟩ ≤ 100000000 := hwx
        obtain ⟨n1, hn1⟩ : ∃ n1 : Nat, n1 = n + 1 := ⟨_, rfl⟩
        obtain ⟨n2, hn2'⟩ : ∃ n2 : Nat, n2 = n1 + rtx.size := ⟨_, rfl⟩
        obtain ⟨n3, hn3⟩ : ∃ n3 : Nat, n3 = n2 + rvs.size := ⟨_, rfl⟩
        obtain ⟨n4, hn4⟩ : ∃ n4 : Nat, n4 = 3 * ml.length := ⟨_, rfl⟩
        obtain ⟨n5, hn5⟩ : ∃ n5 : Nat, n5 = n3 + n4 := ⟨_, rfl⟩
        have w1 : IntKind.i64.wrap ((n : Int) + 1) = (n1 : Int) := by rw [IntKind.wrap_i64] <;> omega
        have w2 : IntKind.i64.wrap ((n1 : Int) + (rtx.size : Int)) = (n2 : Int) := by rw [IntKind.wrap_i64] <;> omega
        have w3 : IntKind.i64.wrap ((n2 : Int) + (rvs.size : Int)) = (n3 : Int) := by rw [IntKind.wrap_i64] <;> omega
        have w4 : IntKind.i64.wrap (3 * (ml.length : Int)) = (n4 : Int) := by rw [IntKind.wrap_i64] <;> omega
        have w5 : IntKind.i64.wrap ((n3 : Int) + (n4 : Int)) = (n5 : Int) := by rw [IntKind.wrap_i64] <;> omega
        have HWx : Hid (n + wtx ⟨rtx, rem, ⟨rvk, rvn, rvf, rvs⟩, ml⟩ = n5 + wtM ml ∧ n5 + wtM ml ≤ 100000000) := by
          rw [Hid]; constructor <;> omega
        have hts : rtx.size ≤ 17592186044416 := by omega
        have hvs : rvs.size ≤ 17592186044416 := by omega
        clear hwx hwx2 hn1 hn2' hn3 hn4 hn5
        have S0 := HX.out _ T0.out.drew
        go_wp2_with fail
        go_region_held3 (fun W => W.cell? ⟨g, o + i * 7, none⟩ = some (.string rtx) ∧ W.cell? ⟨g, o + i * 7 + 1, none⟩ = some (.bool rem) ∧ W.cell? ⟨g, o + i * 7 + 2, none⟩ = some (.int .i64 rvk) ∧ W.cell? ⟨g, o + i * 7 + 3, none⟩ = some (.int .i64 rvn) ∧ W.cell? ⟨g, o + i * 7 + 4, none⟩ = some (.float .f64 rvf) ∧ W.cell? ⟨g, o + i * 7 + 5, none⟩ = some (.string rvs) ∧ W.cell? ⟨g, o + i * 7 + 6, none⟩ = some (.slice rma ml.length rmc)) (first | assumption) (fail)
        clear S0
        have T1 : Hid (Touch (fun _ => False) w wr.drew) := T0.out.drew
        have HC3 : Hid (∀ W, Calls Tryz.prog 28 #[.string rtx] W fun e w' => e = .returned (.bool (runesOf rtx.data.toList).isSome) ∧ Touch (fun _ => False) W w') := fun W => ref_check3 rtx hts W
        have HC2 : Hid (∀ W, Calls Tryz.prog 29 #[.agg #[.int .i64 rvk, .int .i64 rvn, .float .f64 rvf, .string rvs]] W fun e w' => e = .returned (.int .i64 (refCheck ⟨rvk, rvn, rvf, rvs⟩)) ∧ Touch (fun _ => False) W w') := fun W => ref_check ⟨rvk, rvn, rvf, rvs⟩ hvs W
        obtain ⟨c1, hc1⟩ : ∃ c1, Hid (c1 = (runesOf rtx.data.toList).isSome) := ⟨_, Eq.refl _⟩
        obtain ⟨c2, hc2⟩ : ∃ c2, Hid (c2 = refCheck ⟨rvk, rvn, rvf, rvs⟩) := ⟨_, Eq.refl _⟩
        rw [← hc1.out] at HC3
        rw [← hc2.out] at HC2
        generalize wr.drew = V at *
        clear T0 w1 w2 w3 w4 w5
        have HP : Hid (c1 = true ∧ (rem = true → (rtx.toList == []) = true) ∧ c2 = 0 ∧ (rem = false → rvk = 0) → (runesOf rtx.data.toList).isSome = true ∧ (rem = true → rtx = ⟨#[]⟩) ∧ refCheck ⟨rvk, rvn, rvf, rvs⟩ = 0 ∧ (rem = false → rvk = 0)) := fun h => ⟨hc1.out ▸ h.1, fun e => bytes_nil (h.2.1 e), hc2.out ▸ h.2.2.1, h.2.2.2⟩
        clear hc1 hc2 hts hvs
        go_upto_region 6 with fail
        go_cut [88] (fun t wx => ∃ bb : Bool, t = .bool bb ∧ Hid (Touch (fun _ => False) w wx ∧ (bb = false → c1 = true ∧ (rem = true → (rtx.toList == []) = true) ∧ c2 = 0 ∧ (rem = false → rvk = 0))))
        case first =>
          clear HWx HP HNx HAm HWt
          go_wp2_with fail
          refine (HC3.out _).mono ?_
          rintro e W1 ⟨rfl, t1⟩
          have T2 : Hid (Touch (fun _ => False) w W1) := T1.out.trans t1
          clear t1 T1 HC3
          cases c1 with
          | false =>
            go_wp2_with fail
            go_meet
            case rel => exact ⟨true, rfl, T2.out, fun h => by cases h⟩
          | true =>
            obtain ⟨y0, y1, y2, y3, y4, y5, y6⟩ := HX.out W1 T2.out
            cases rem with
            | true =>
              by_cases hq : (rtx.toList == []) = true
              · go_wp2_with fail
                refine (HC2.out _).mono ?_
                rintro e W2 ⟨rfl, t2⟩
                clear y0 y1 y2 y3 y4 y5 y6
                obtain ⟨y0, y1, y2, y3, y4, y5, y6⟩ := HX.out W2 (T2.out.trans t2)
                have T3 : Hid (Touch (fun _ => False) w W2) := T2.out.trans t2
                clear t2 T2 HX HC2
                by_cases hz : c2 = 0
                · have hQ : Hid ((rtx.toList == []) = true ∧ c2 = 0) := ⟨hq, hz⟩
                  go_wp2_with fail
                  go_meet
                  case rel => exact ⟨false, rfl, T3.out, fun _ => ⟨trivial, fun _ => hQ.out.1, hQ.out.2, fun h => by cases h⟩⟩
                · have hz2 : (c2 == 0) = false := by simpa using hz
                  go_wp2_with fail
                  go_meet
                  case rel => exact ⟨true, rfl, T3.out, fun h => by cases h⟩
              · have hq2 : (rtx.toList == []) = false := by simpa using hq
                clear hq HX HC2
                go_wp2_with fail
                go_meet
                case rel => exact ⟨true, rfl, T2.out, fun h => by cases h⟩
            | false =>
              go_wp2_with fail
              refine (HC2.out _).mono ?_
              rintro e W2 ⟨rfl, t2⟩
              clear y0 y1 y2 y3 y4 y5 y6
              obtain ⟨y0, y1, y2, y3, y4, y5, y6⟩ := HX.out W2 (T2.out.trans t2)
              have T3 : Hid (Touch (fun _ => False) w W2) := T2.out.trans t2
              clear t2 T2 HX HC2
              by_cases hz : c2 = 0
              · by_cases hk : rvk = 0
                · have hQ : Hid (c2 = 0 ∧ rvk = 0) := ⟨hz, hk⟩
                  go_wp2_with fail
                  go_meet
                  case rel => exact ⟨false, rfl, T3.out, fun _ => ⟨trivial, fun h => (by cases h), hQ.out.1, fun _ => hQ.out.2⟩⟩
                · have hk2 : (rvk == 0) = false := by simpa using hk
                  have hk3 : (rvk != 0) = true := by simpa using hk
                  go_wp2_with fail
                  go_meet
                  case rel => exact ⟨true, rfl, T3.out, fun h => by cases h⟩
              · have hz2 : (c2 == 0) = false := by simpa using hz
                go_wp2_with fail
                go_meet
                case rel => exact ⟨true, rfl, T3.out, fun h => by cases h⟩
        case rest =>
          obtain ⟨bb, rfl, HH⟩ := hcut
          have T2 : Hid (Touch (fun _ => False) w wc) := HH.out.1
          clear T1 HC3 HC2
          cases bb with
          | true =>
            clear HX HAm HH HP HNx HWt
            go_wp2_with fail
            go_ret
            exact ⟨false, rfl, fun h => (by cases h), T2.out⟩
          | false =>
            have HP2 : Hid ((runesOf rtx.data.toList).isSome = true ∧ (rem = true → rtx = ⟨#[]⟩) ∧ refCheck ⟨rvk, rvn, rvf, rvs⟩ = 0 ∧ (rem = false → rvk = 0)) := HP.out (HH.out.2 rfl)
            clear HH HP
            have hm4 : ml.length ≤ 9223372036854775807 := by omega
            go_wp2_with fail
            go_loopg [3, 5] ml.length (fun gk2 s3 s5 wr2 => ∃ (k m : Nat), k + gk2 = ml.length ∧ s3 = .int .i64 (m : Int) ∧ s5 = .int .i64 (k : Int) ∧ Hid (Touch (fun _ => False) w wr2 ∧ m = n5 + wtM (ml.take k) ∧ ∀ q ∈ ml.take k, refCheck q.v = 0))
            case atStart => exact ⟨0, n5, by omega, rfl, rfl, T2.out, rfl, fun q hq => by simp at hq⟩
            case round =>
              obtain ⟨k, m, hkg, rfl, rfl, HJ⟩ := hrel
              obtain ⟨-, -, -, -, -, -, y6⟩ := HX.out _ HJ.out.1
              by_cases hkl : k < ml.length
              · obtain ⟨mb, mo, rfl, hcm⟩ := HAm.out (by intro e; subst e; simp at hkl)
                have HY : Hid (∀ W, Touch (fun _ => False) w W → _) := fun W (t : Touch (fun _ => False) w W) => hcm W t k hkl
                have hk0 : (0 : Int) ≤ (k : Int) := by omega
                have hk1 : (k : Int) < (ml.length : Int) := by omega
                have HWm : Hid (n5 + wtM (ml.take (k + 1)) = m + wtm ml[k]) := by rw [Hid, HJ.out.2.1, wtM_take hkl]; omega
                have hwm : m + wtm ml[k] ≤ 100000000 := by have h1 := HWm.out; have h2 := wtM_take_le ml (k + 1); have h3 := HWx.out.2; omega
                have HNm : Hid (refCheck ml[k].v = 0 → ∀ q ∈ ml.take (k + 1), refCheck q.v = 0) := fun h => take_mem hkl HJ.out.2.2 h
                have T3 : Hid (Touch (fun _ => False) w wr) := HJ.out.1
                clear hcm HJ HAm
                generalize ml[k] = q at *
                obtain ⟨ky, vk', vn', vf', vs'⟩ := q
                simp only at HY
                have hwm2 : wtm ⟨ky, vk', vn', vf', vs'⟩ = ky.size + vs'.size := rfl
                obtain ⟨m1', hm1⟩ : ∃ m1' : Nat, m1' = m + ky.size := ⟨_, rfl⟩
                obtain ⟨m2', hm2⟩ : ∃ m2' : Nat, m2' = m1' + vs'.size := ⟨_, rfl⟩
                have v1 : IntKind.i64.wrap ((m : Int) + (ky.size : Int)) = (m1' : Int) := by rw [IntKind.wrap_i64] <;> omega
                have v2 : IntKind.i64.wrap ((m1' : Int) + (vs'.size : Int)) = (m2' : Int) := by rw [IntKind.wrap_i64] <;> omega
                have HWy : Hid (n5 + wtM (ml.take (k + 1)) = m2') := by rw [Hid, HWm.out]; omega
                have hvs2 : vs'.size ≤ 17592186044416 := by omega
                have HC4 : Hid (∀ W, Calls Tryz.prog 29 #[.agg #[.int .i64 vk', .int .i64 vn', .float .f64 vf', .string vs']] W fun e w' => e = .returned (.int .i64 (refCheck ⟨vk', vn', vf', vs'⟩)) ∧ Touch (fun _ => False) W w') := fun W => ref_check ⟨vk', vn', vf', vs'⟩ hvs2 W
                obtain ⟨c3, hc3⟩ : ∃ c3, Hid (c3 = refCheck ⟨vk', vn', vf', vs'⟩) := ⟨_, Eq.refl _⟩
                rw [← hc3.out] at HC4
                have HNz : Hid (c3 = 0 → ∀ q ∈ ml.take (k + 1), refCheck q.v = 0) := fun h => HNm.out (hc3.out ▸ h)
                clear HNm HWm hwm hwm2 hm1 hm2 hvs2 hc3
                obtain ⟨z0, z1, z2, z3, z4⟩ := HY.out _ T3.out
                obtain ⟨-, -, -, -, -, -, y6d⟩ := HX.out _ T3.out.drew
                obtain ⟨z0d, z1d, z2d, z3d, z4d⟩ := HY.out _ T3.out.drew
                have S0 := And.intro y6d (And.intro z0d z4d)
                clear y6d z0d z1d z2d z3d z4d
                go_upto_region 11 with fail
                clear y6 z0 z1 z2 z3 z4
                go_region_held3 (fun W => W.cell? ⟨g, o + i * 7 + 6, none⟩ = some (.slice (some ⟨mb, mo, none⟩) ml.length rmc) ∧ W.cell? ⟨mb, mo + k * 5, none⟩ = some (.string ky) ∧ W.cell? ⟨mb, mo + k * 5 + 4, none⟩ = some (.string vs')) (first | assumption) (fail)
                clear S0
                have T4 : Hid (Touch (fun _ => False) w wr.drew) := T3.out.drew
                generalize wr.drew = V2 at *
                clear T3 v1 v2
                obtain ⟨-, -, -, -, -, -, y6⟩ := HX.out _ T4.out
                obtain ⟨z0, z1, z2, z3, z4⟩ := HY.out _ T4.out
                go_wp2_with fail
                refine (HC4.out _).mono ?_
                rintro e W5 ⟨rfl, t5⟩
                have T5 : Hid (Touch (fun _ => False) w W5) := T4.out.trans t5
                clear t5 T4 y6 z0 z1 z2 z3 z4 HC4 HY
                by_cases hz : c3 = 0
                · have HF : Hid (∀ q ∈ ml.take (k + 1), refCheck q.v = 0) := HNz.out hz
                  clear HNz HX
                  go_wp2_with fail
                  go_roundg (ml.length - (k + 1))
                  case measure => omega
                  case rel => exact ⟨k + 1, m2', by omega, rfl, by go_num, T5.out, HWy.out.symm, HF.out⟩
                · have hz2 : (c3 == 0) = false := by simpa using hz
                  clear HNz HX
                  go_wp2_with fail
                  go_ret
                  exact ⟨false, rfl, fun h => (by cases h), T5.out⟩
              · have hke : k = ml.length := by omega
                subst hke
                have HF : Hid (Touch (fun _ => False) w wr ∧ m = wtL (L.take (i + 1)) ∧ ∀ x ∈ L.take (i + 1), OkX x) := by
                  have h1 := HJ.out
                  rw [List.take_length] at h1
                  refine ⟨h1.1, by rw [h1.2.1, HWt.out, HWx.out.1], HNx.out ⟨HP2.out.1, HP2.out.2.1, HP2.out.2.2.1, HP2.out.2.2.2, h1.2.2⟩⟩
                clear HJ HX HAm HNx HWt HWx HP2
                go_wp2_with fail
                go_roundg (L.length - (i + 1))
                case measure => omega
                case rel => exact ⟨i + 1, m, by omega, rfl, by go_num, HF.out⟩
      · have hn2 : ¬ (n : Int) ≤ 2000 := by omega
        have hi0 : (0 : Int) ≤ (i : Int) := by omega
        have hi2 : (i : Int) < (L.length : Int) := by omega
        have HF : Hid (Touch (fun _ => False) w wr) := HI.out.1
        clear HA HM HI
        by_cases hl : L.length ≤ 100
        · have hl2 : (L.length : Int) ≤ 100 := by omega
          go_wp2_with fail
          go_ret
          exact ⟨false, rfl, fun h => (by cases h), HF.out⟩
        · have hl2 : ¬ (L.length : Int) ≤ 100 := by omega
          go_wp2_with fail
          go_ret
          exact ⟨false, rfl, fun h => (by cases h), HF.out⟩
    · have hie : i = L.length := by omega
      subst hie
      have HF : Hid (Touch (fun _ => False) w wr ∧ n = wtL L ∧ ∀ x ∈ L, OkX x) := by
        have h1 := HI.out
        rw [List.take_length] at h1
        exact h1
      clear HA HM HI
      by_cases hl : L.length ≤ 100
      · have hl2 : (L.length : Int) ≤ 100 := by omega
        by_cases hn : n ≤ 2000
        · have hn2 : (n : Int) ≤ 2000 := by omega
          have HG : Hid (LightP L) := ⟨hl, HF.out.2.2, by rw [← HF.out.2.1]; exact hn⟩
          go_wp2_with fail
          go_ret
          exact ⟨true, rfl, fun _ => HG.out, HF.out.1⟩
        · have hn2 : ¬ (n : Int) ≤ 2000 := by omega
          go_wp2_with fail
          go_ret
          exact ⟨false, rfl, fun h => (by cases h), HF.out.1⟩
      · have hl2 : ¬ (L.length : Int) ≤ 100 := by omega
        go_wp2_with fail
        go_ret
        exact ⟨false, rfl, fun h => (by cases h), HF.out.1⟩
end Go.Proofs.YtijkekkjiboomaaGreatDoor
