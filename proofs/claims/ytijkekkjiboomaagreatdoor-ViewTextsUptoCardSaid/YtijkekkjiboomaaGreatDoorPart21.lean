/- The document's runs: same, Same. -/
import Derived.Test.YtijkekkjiboomaaGreatDoorPart20
import Derived.Test.YtijkekkjiboomaaGreatDoorVwO
import Derived.Test.YtijkekkjiboomaaGreatDoorPart11
import Derived.Test.YtijkekkjiboomaaGreatDoorPart10
import Derived.Test.YtijkekkjiboomaaGreatDoorPart16
namespace Go.Proofs.YtijkekkjiboomaaGreatDoor
open Go.RowKit Go.Maps
set_option linter.unusedVariables false
set_option linter.unusedSimpArgs false
set_option maxRecDepth 100000

set_option maxHeartbeats 8000000 in
theorem qrun_any {w : World} {a b : Rw} {x y : Rn} (ha : MtR w a x) (hb : MtR w b y) (dx : x.Dbl) (dy : y.Dbl) : Calls Tryz.prog 53 #[a.val, b.val] w fun e w' => e = .returned (.bool (sameR x y)) ∧ Touch (fun _ => False) w w' := by
  have HM : Hid (∀ W, Touch (fun _ => False) w W → Calls Tryz.prog 48 #[.slice a.ms.a a.ms.n a.ms.c, .slice b.ms.a b.ms.n b.ms.c] W fun e w' => e = .returned (.bool (sameL x.ml y.ml)) ∧ Touch (fun _ => False) W w') := fun W t => qsame_any (ha.ml.touch t) (hb.ml.touch t) dx.m dy.m
  have HV : Hid (∀ W, Calls Tryz.prog 68 #[.agg #[.int .i64 a.vk, .int .i64 a.vn, .float .f64 a.vf, .string a.vs], .agg #[.int .i64 b.vk, .int .i64 b.vn, .float .f64 b.vf, .string b.vs]] W fun e w' => e = .returned (.int .i64 (refCmp x.v y.v)) ∧ Touch (fun _ => False) W w') := fun W => by
    have h1 : a.vv.f < 18446744073709551616 := by rw [ha.v]; exact dx.v
    have h2 : b.vv.f < 18446744073709551616 := by rw [hb.v]; exact dy.v
    have := ref_cmp a.vv b.vv h1 h2 W
    rw [ha.v, hb.v] at this
    have e1 : x.v = ⟨a.vk, a.vn, a.vf, a.vs⟩ := ha.v.symm
    have e2 : y.v = ⟨b.vk, b.vn, b.vf, b.vs⟩ := hb.v.symm
    rw [e1, e2] at this ⊢
    exact this
  have HA : Hid (sameR x y = ((a.em == b.em) && ((a.tx.toList == b.tx.toList) && ((refCmp x.v y.v == 0) && sameL x.ml y.ml)))) := by rw [Hid, ha.em, hb.em, ha.tx, hb.tx]; rfl
  obtain ⟨E, hE⟩ : ∃ E, Hid (E = (w.alloc (rwO a)).alloc (rwO b)) := ⟨_, Eq.refl _⟩
  have HTE : Hid (Touch (fun _ => False) w E) := by rw [hE.out]; exact ((Touch.refl _ _).alloc _).alloc _
  have HQ : Hid (E.heap[w.heap.size]? = some (rwO a) ∧ E.heap[w.heap.size + 1]? = some (rwO b)) := by rw [hE.out]; exact heap_alloc2 _ _ _
  generalize sameR x y = sr at *
  clear ha hb dx dy
  generalize refCmp x.v y.v = vb at *
  generalize sameL x.ml y.ml = mb at *
  obtain ⟨atx, aem, avk, avn, avf, avs, ⟨ama, amn, amc⟩⟩ := a
  obtain ⟨btx, bem, bvk, bvn, bvf, bvs, ⟨bma, bmn, bmc⟩⟩ := b
  simp only at HM HV HA HQ ⊢
  obtain ⟨a0, a1, a2, a3, a4, a5, a6⟩ := rwO_cells HQ.out.1
  obtain ⟨b0, b1, b2, b3, b4, b5, b6⟩ := rwO_cells HQ.out.2
  have HQ1 : Hid (∀ W, Touch (fun _ => False) E W → (W.heap[w.heap.size]? = some (rwO ⟨atx, aem, avk, avn, avf, avs, ⟨ama, amn, amc⟩⟩) ∧ W.heap[w.heap.size + 1]? = some (rwO ⟨btx, bem, bvk, bvn, bvf, bvs, ⟨bma, bmn, bmc⟩⟩) ∧ Touch (fun _ => False) w W)) := fun W t => ⟨hkY t HQ.out.1, hkY t HQ.out.2, HTE.out.trans t⟩
  go_enter Tryz.func53, Tryz.ntmps53
  go_upto_region 1 with fail
  rw [← hE.out]
  clear hE
  by_cases h1 : aem = bem
  · subst h1
    by_cases h2 : atx.toList = btx.toList
    · have HB : Hid (sr = ((vb == 0) && mb)) := by rw [Hid, HA.out, h2]; simp
      go_wp2_with fail
      refine (HV.out _).mono ?_
      rintro e W1 ⟨rfl, t1⟩
      obtain ⟨q1, q2, HT1⟩ := HQ1.out _ t1
      clear a0 a1 a2 a3 a4 a5 a6 b0 b1 b2 b3 b4 b5 b6 HQ1 HQ HTE HA t1
      obtain ⟨-, -, -, -, -, -, a6⟩ := rwO_cells q1
      obtain ⟨-, -, -, -, -, -, b6⟩ := rwO_cells q2
      have HT : Hid (Touch (fun _ => False) w W1) := HT1
      clear q1 q2 HT1
      by_cases h3 : vb = 0
      · subst h3
        have HD : Hid (sr = mb) := by rw [Hid, HB.out]; rfl
        go_wp2_with fail
        refine (HM.out _ HT.out).mono ?_
        rintro e W2 ⟨rfl, t2⟩
        have HT2 : Hid (Touch (fun _ => False) w W2) := HT.out.trans t2
        clear a6 b6 t2 HT HM HV HB
        cases mb with
        | true =>
          go_wp2_with fail
          go_ret
          exact ⟨by rw [HD.out]; rfl, HT2.out⟩
        | false =>
          go_wp2_with fail
          go_ret
          exact ⟨by rw [HD.out]; rfl, HT2.out⟩
      · have HD : Hid (sr = false) := by rw [Hid, HB.out]; simp [h3]
        go_wp2_with fail
        go_ret
        exact ⟨by rw [HD.out]; rfl, HT.out⟩
    · have HB : Hid (sr = false) := by rw [Hid, HA.out]; simp [h2]
      go_wp2_with fail
      go_ret
      exact ⟨by rw [HB.out]; rfl, HTE.out⟩
  · have HB : Hid (sr = false) := by rw [Hid, HA.out]; simp [h1]
    go_wp2_with fail
    go_ret
    exact ⟨by rw [HB.out]; rfl, HTE.out⟩
theorem sameRL_from {A B : List Rn} (h : A.length = B.length) {i : Nat} (h1 : i < A.length) (h2 : i < B.length) : ((A.drop i).zip (B.drop i)).all (fun p => sameR p.1 p.2) = (sameR A[i] B[i] && ((A.drop (i + 1)).zip (B.drop (i + 1))).all fun p => sameR p.1 p.2) := by
  rw [List.drop_eq_getElem_cons h1, List.drop_eq_getElem_cons h2]; rfl
set_option maxHeartbeats 16000000 in
theorem qruns_any {w : World} {va vb : Value} {A B : List Rn} (ha : SlRn w va A) (hb : SlRn w vb B) (da : ∀ r ∈ A, r.Dbl) (db : ∀ r ∈ B, r.Dbl) (la : A.length ≤ 1048576) (lb : B.length ≤ 1048576) :
    Calls Tryz.prog 47 #[va, vb] w fun e w' => e = .returned (.bool (sameRL A B)) ∧ Touch (fun _ => False) w w' := by
  obtain ⟨ra, hra, hma⟩ := ha
  obtain ⟨rb, hrb, hmb⟩ := hb
  have hla := hma.len
  have hlb := hmb.len
  obtain ⟨ao, ca, rfl, -, -, -⟩ := hra.shape
  obtain ⟨bo, cb, rfl, -, -, -⟩ := hrb.shape
  have HA : Hid (ra ≠ [] → _) := hra.at
  have HB : Hid (rb ≠ [] → _) := hrb.at
  have HLA : Hid (ra.length = A.length ∧ rb.length = B.length) := ⟨hla, hlb⟩
  have HC : Hid (∀ i (h1 : i < ra.length) (h2 : i < A.length) (h3 : i < rb.length) (h4 : i < B.length) W, Touch (fun _ => False) w W → Calls Tryz.prog 53 #[ra[i].val, rb[i].val] W fun e w' => e = .returned (.bool (sameR A[i] B[i])) ∧ Touch (fun _ => False) W w') := fun i h1 h2 h3 h4 W t => qrun_any ((hma.get i h1 h2).touch t) ((hmb.get i h3 h4).touch t) (da _ (List.getElem_mem h2)) (db _ (List.getElem_mem h4))
  have HW : Hid (Touch (fun _ => False) w w) := Touch.refl _ _
  have H0 : Hid (sameRL A B = (decide (A.length = B.length) && ((A.drop 0).zip (B.drop 0)).all fun p => sameR p.1 p.2)) := rfl
  clear hra hma hrb hmb da db hla hlb
  rw [HLA.out.1, HLA.out.2]
  generalize sameRL A B = N at *
  by_cases hll : A.length = B.length
  · have HE : Hid (N = ((A.drop 0).zip (B.drop 0)).all fun p => sameR p.1 p.2) := by rw [Hid, H0.out, decide_eq_true hll, Bool.true_and]
    clear H0
    go_enter Tryz.func47, Tryz.ntmps47
    have hnq : ¬ ((A.length : Int) ≠ (B.length : Int)) := by omega
    have hnl : (A.length : Int) = (B.length : Int) := by omega
    go_wp2_with fail
    go_loopg [5] A.length (fun gk s5 wr => ∃ (i : Nat), i + gk = A.length ∧ s5 = .int .i64 (i : Int) ∧ Hid (Touch (fun _ => False) w wr ∧ N = ((A.drop i).zip (B.drop i)).all fun p => sameR p.1 p.2))
    case atStart => exact ⟨0, by omega, rfl, HW.out, HE.out⟩
    case round =>
      obtain ⟨i, hig, rfl, HI⟩ := hrel
      by_cases hil : i < A.length
      · have hi0 : (0 : Int) ≤ (i : Int) := by omega
        have hiA : (i : Int) < (A.length : Int) := by omega
        have hiB : (i : Int) < (B.length : Int) := by omega
        have h2 : i < A.length := by omega
        have h4 : i < B.length := by omega
        have h1 : i < ra.length := by have := HLA.out.1; omega
        have h3 : i < rb.length := by have := HLA.out.2; omega
        have hiw1 : IntKind.i64.wrap ((i : Int) + 1) = (i : Int) + 1 := by rw [IntKind.wrap_i64]; omega
        have HC1 : Hid _ := fun W t => (HC.out i h1 h2 h3 h4 W t)
        have hdr := sameRL_from hll h2 h4
        obtain ⟨ba, fa, rfl, -, hca⟩ := HA.out (by intro h; rw [h] at h1; simp at h1)
        obtain ⟨bb, fb, rfl, -, hcb⟩ := HB.out (by intro h; rw [h] at h3; simp at h3)
        have HX : Hid (∀ W, Touch (fun _ => False) w W → _ ∧ _) := fun W (t : Touch (fun _ => False) w W) => And.intro (hca W t i h1) (hcb W t i h3)
        have T0 : Hid (Touch (fun _ => False) w wr) := HI.out.1
        have HNx : Hid (N = (sameR A[i] B[i] && ((A.drop (i + 1)).zip (B.drop (i + 1))).all fun p => sameR p.1 p.2)) := by rw [← hdr]; exact HI.out.2
        clear hca hcb HA HB HC hdr HI HE HW
        generalize sameR A[i] B[i] = u at *
        generalize ra[i] = xa at *
        generalize rb[i] = xb at *
        obtain ⟨atx, aem, avk, avn, avf, avs, ⟨ama, amn, amc⟩⟩ := xa
        obtain ⟨btx, bem, bvk, bvn, bvf, bvs, ⟨bma, bmn, bmc⟩⟩ := xb
        simp only at HX HC1
        have S0 := HX.out _ T0.out.drew
        go_upto_region 6 with fail
        go_region_held3 (fun W => (W.cell? ⟨ba, fa + i * 7, none⟩ = some (.string atx) ∧ W.cell? ⟨ba, fa + i * 7 + 1, none⟩ = some (.bool aem) ∧ W.cell? ⟨ba, fa + i * 7 + 2, none⟩ = some (.int .i64 avk) ∧ W.cell? ⟨ba, fa + i * 7 + 3, none⟩ = some (.int .i64 avn) ∧ W.cell? ⟨ba, fa + i * 7 + 4, none⟩ = some (.float .f64 avf) ∧ W.cell? ⟨ba, fa + i * 7 + 5, none⟩ = some (.string avs) ∧ W.cell? ⟨ba, fa + i * 7 + 6, none⟩ = some (.slice ama amn amc)) ∧ (W.cell? ⟨bb, fb + i * 7, none⟩ = some (.string btx) ∧ W.cell? ⟨bb, fb + i * 7 + 1, none⟩ = some (.bool bem) ∧ W.cell? ⟨bb, fb + i * 7 + 2, none⟩ = some (.int .i64 bvk) ∧ W.cell? ⟨bb, fb + i * 7 + 3, none⟩ = some (.int .i64 bvn) ∧ W.cell? ⟨bb, fb + i * 7 + 4, none⟩ = some (.float .f64 bvf) ∧ W.cell? ⟨bb, fb + i * 7 + 5, none⟩ = some (.string bvs) ∧ W.cell? ⟨bb, fb + i * 7 + 6, none⟩ = some (.slice bma bmn bmc))) (first | assumption)
          (first
            | (go_at_call 53; first | ((with_reducible refine (HC1.out _ T0.out.drew).mono ?_); rintro e w1 ⟨rfl, t1⟩; have S1 := HX.out w1 (T0.out.drew.trans t1); have T1 : Hid (Touch (fun _ => False) w w1) := T0.out.drew.trans t1; clear t1)))
        all_goals clear S0
        all_goals clear S1 T0 HX HC1
        all_goals cases u
        · have HF : Hid (N = false) := by rw [Hid, HNx.out]; rfl
          go_wp2_with fail
          go_ret
          exact ⟨by rw [HF.out]; rfl, T1.out⟩
        · have HF : Hid (N = ((A.drop (i + 1)).zip (B.drop (i + 1))).all fun p => sameR p.1 p.2) := by rw [Hid, HNx.out]; rfl
          go_wp2_with fail
          go_roundg (A.length - (i + 1))
          case measure => omega
          case rel => exact ⟨i + 1, by omega, by go_num, T1.out, HF.out⟩
      · have hEq : i = A.length := by omega
        have HF : Hid (N = true) := by
          have h1 := HI.out.2
          rw [List.drop_of_length_le (by omega)] at h1
          rw [h1]; rfl
        have HT : Hid (Touch (fun _ => False) w wr) := HI.out.1
        clear HI HA HB HC HE HW
        subst hEq
        go_wp2_with fail
        go_ret
        exact ⟨by rw [HF.out]; rfl, HT.out⟩
  · have HE : Hid (N = false) := by rw [Hid, H0.out, decide_eq_false hll, Bool.false_and]
    clear H0 HA HB HC
    go_enter Tryz.func47, Tryz.ntmps47
    have hnq : ((A.length : Int) ≠ (B.length : Int)) := by omega
    go_wp2_with fail
    go_ret
    exact ⟨by rw [HE.out]; rfl, HW.out⟩
end Go.Proofs.YtijkekkjiboomaaGreatDoor

/- Views: their texts, as bytes (no Go in it). -/
namespace Go.Proofs.YtijkekkjiboomaaGreatDoor
open Go.RowKit
set_option linter.unusedVariables false
set_option linter.unusedSimpArgs false

/-- An entry, with the three words of the slice of its kids. -/
inductive En where
  | mk (ky : ByteArray) (v : V) (raw : Sw) (kids : List En)
def En.ky : En → ByteArray | .mk k _ _ _ => k
def En.v : En → V | .mk _ v _ _ => v
def En.raw : En → Sw | .mk _ _ r _ => r
def En.kids : En → List En | .mk _ _ _ l => l
theorem En.eta (e : En) : e = .mk e.ky e.v e.raw e.kids := by cases e; rfl
/-- A text's text. -/
def qL (s : ByteArray) : List UInt8 := 34 :: quoteGo s.data.toList ++ [34]
theorem refQuote_qL (s : ByteArray) : refQuote s = ⟨(qL s).toArray⟩ := rfl
theorem textL_text (s : ByteArray) : textL ⟨4, 0, 0, s⟩ = qL s := by
  unfold textL qL
  simp only
  rw [if_neg (by omega), if_neg (by omega), if_neg (by omega), if_neg (by omega)]
  rfl
/-- A mark's part of a line. -/
def mkT (m : Mk) : List UInt8 := 32 :: qL m.ky ++ 61 :: textL m.v
/-- What stands first in a run's line. -/
def headT (x : Rn) : List UInt8 := if x.em = true then [101, 32] ++ textL x.v else [116, 32] ++ qL x.tx
/-- A run's line, without its end. -/
def lineT (x : Rn) : List UInt8 := headT x ++ x.ml.flatMap mkT
def runsT (L : List Rn) : List UInt8 := L.flatMap fun x => lineT x ++ [10]
def insetT (d : Nat) : List UInt8 := List.replicate (2 * d) 32
def entT (d : Nat) (k : ByteArray) (v : V) : List UInt8 := insetT d ++ [109, 32] ++ qL k ++ 61 :: textL v
mutual
  def enT : Nat → En → List UInt8
    | d, .mk k v _ l => entT d k v ++ [10] ++ ensT (d + 1) l
  def ensT : Nat → List En → List UInt8
    | _, [] => []
    | d, e :: l => enT d e ++ ensT d l
end
theorem ensT_flat (d : Nat) : ∀ l : List En, ensT d l = l.flatMap (enT d)
  | [] => by unfold ensT; rfl
  | e :: l => by unfold ensT; rw [ensT_flat d l, List.flatMap_cons]
theorem enT_eq (d : Nat) (e : En) : enT d e = entT d e.ky e.v ++ [10] ++ ensT (d + 1) e.kids := by
  cases e; unfold enT; rfl
/-- A view's text. -/
def viewT (L : List Rn) (M : List En) : List UInt8 := runsT L ++ ensT 0 M
/-- Its runes alone. -/
def plainR (x : Rn) : List UInt8 := if x.em = true then [239, 191, 188] else x.tx.data.toList
def plainT (L : List Rn) : List UInt8 := L.flatMap plainR
/-- A row of texts, one behind the other. -/
def joinZ (l : List ByteArray) : List UInt8 := l.flatMap fun s => s.data.toList
theorem joinZ_append (a b : List ByteArray) : joinZ (a ++ b) = joinZ a ++ joinZ b := by simp [joinZ]
theorem joinZ_cons (a : ByteArray) (b : List ByteArray) : joinZ (a :: b) = a.data.toList ++ joinZ b := by simp [joinZ]
theorem joinZ_nil : joinZ [] = [] := rfl
/-- What a run's line is made of. -/
def markP (m : Mk) : List ByteArray := [⟨#[32]⟩, ⟨(qL m.ky).toArray⟩, ⟨#[61]⟩, ⟨(textL m.v).toArray⟩]
def headP (x : Rn) : List ByteArray := if x.em = true then [⟨#[101, 32]⟩, ⟨(textL x.v).toArray⟩] else [⟨#[116, 32]⟩, ⟨(qL x.tx).toArray⟩]
def partsT (x : Rn) : List ByteArray := headP x ++ x.ml.flatMap markP
theorem bytesT (l : List UInt8) : (ByteArray.mk l.toArray).data.toList = l := by simp
theorem joinZ_markP (m : Mk) : joinZ (markP m) = mkT m := by
  unfold markP mkT
  rw [joinZ_cons, joinZ_cons, joinZ_cons, joinZ_cons, joinZ_nil, bytesT, bytesT, List.append_nil]
  generalize qL m.ky = a
  generalize textL m.v = b
  rw [List.cons_append]
  rfl
theorem joinZ_marks : ∀ l : List Mk, joinZ (l.flatMap markP) = l.flatMap mkT
  | [] => rfl
  | m :: l => by rw [List.flatMap_cons, List.flatMap_cons, joinZ_append, joinZ_markP, joinZ_marks l]
theorem joinZ_headP (x : Rn) : joinZ (headP x) = headT x := by
  unfold headP headT
  split
  · rw [joinZ_cons, joinZ_cons, joinZ_nil, bytesT, List.append_nil]
  · rw [joinZ_cons, joinZ_cons, joinZ_nil, bytesT, List.append_nil]
theorem joinZ_partsT (x : Rn) : joinZ (partsT x) = lineT x := by
  unfold partsT lineT
  rw [joinZ_append, joinZ_headP, joinZ_marks]
theorem qL_len (s : ByteArray) : (qL s).length ≤ 2 * s.size + 2 := by
  have := quoteGo_length s.data.toList
  unfold qL
  have e : s.data.toList.length = s.size := by rw [Array.length_toList]; rfl
  simp only [List.length_cons, List.length_append, List.length_nil]
  omega
end Go.Proofs.YtijkekkjiboomaaGreatDoor

/- A strings.Builder that may have been read: WriteByte, String. -/
namespace Go.Proofs.YtijkekkjiboomaaGreatDoor
open Go.RowKit
set_option linter.unusedVariables false
set_option linter.unusedSimpArgs false
set_option maxRecDepth 100000

set_option maxHeartbeats 1000000 in
theorem b_writeByteF (B b : Nat) (l : List UInt8) (c : UInt8) (x : Int) (hx : x = c.toNat) (w : World) (h : BldF B b l w) (hlen : l.length + 1 ≤ 140737488355328) (hBw : B ≤ w.heap.size) :
    Calls Tryz.prog 57 #[.pointer (some ⟨b, 0, none⟩), .int .u8 x] w fun e w' => e = .returned .nilIface ∧ BldF B b (l ++ [c]) w' ∧ BKeep B b w w' := by
  subst hx
  have HC : Hid (Calls Tryz.prog 61 #[.pointer (some ⟨b, 0, none⟩)] w fun e w' => e = .returned (.tuple #[]) ∧ Go.Lib.BuilderAtF 60 5 B b (.pointer (some ⟨b, 0, none⟩)) (Go.Lib.byteCells l) w' ∧ BKeep B b w w') := b_copyF B b l w h
  clear h
  obtain ⟨i0, hi, hz0, hz1, hz2⟩ := info_parts Tryz.infoByte
  go_enter Tryz.func57, Tryz.ntmps57
  go_wp2_with fail
  refine HC.out.mono ?_
  rintro e w1 ⟨rfl, ⟨hB, v, hbk, hown, hne⟩, hk1⟩
  have c0 : w1.cell? ⟨b, 0, none⟩ = some (.pointer (some ⟨b, 0, none⟩)) := by rw [cell_of_block hbk]; rfl
  have c1 : w1.cell? ⟨b, 1, none⟩ = some v := by rw [cell_of_block hbk]; rfl
  have hlt : b < w1.heap.size := lt_of_heap hbk
  have hBw1 : B ≤ w1.heap.size := Nat.le_trans hBw hk1.below.size
  have HK1 : Hid (BKeep B b w w1) := hk1
  have HBK : Hid (w1.heap[b]? = some (.cells #[.pointer (some ⟨b, 0, none⟩), v] 60 (0, 0))) := hbk
  rw [Go.Lib.byteCells_length] at hown
  clear hk1 hbk HC
  go_wp2_with (first | (at_builtin; refine wpList_append_ownF _ rfl _ _ 58 rfl B 5 i0 (.int .u8 0) 1 1 Tryz.underlying58 hi hz0 hz1 hz2 rfl (by decide) _ _ _ rfl (hown.alloc _) ⟨w1.heap.size, 0, none⟩ 1 1 [.int .u8 (c.toNat : Int)] rfl rfl ?c1 ?c2 ?c3 ?c4 ?c5 ?_))
  case c1 =>
    intro j u hj
    match j, hj with
    | 0, hj => simp at hj; subst hj; simp [Addr.add]
  case c2 => intro u hu; simp at hu; subst hu; rfl
  case c3 => unfold maxLen; omega
  case c4 => omega
  case c5 => simp; omega
  intro v' w2 hown' hgrow _
  have hb2 : w2.heap[b]? = some (.cells #[.pointer (some ⟨b, 0, none⟩), v] 60 (0, 0)) := by
    rw [hgrow.block b (by simp; omega) (fun e => hne e.symm), Below.heap_alloc _ _ _ hlt]
    exact HBK.out
  have d0 : w2.cell? ⟨b, 0, none⟩ = some (.pointer (some ⟨b, 0, none⟩)) := by rw [cell_of_block hb2]; rfl
  have d1 : w2.cell? ⟨b, 1, none⟩ = some v := by rw [cell_of_block hb2]; rfl
  have z1 : w2.frozen? ⟨b, 1, none⟩ = false := free_of_block hb2
  have HQ : Hid (BldF B b (l ++ [c]) (w2.setCell ⟨b, 1, none⟩ v') ∧ BKeep B b w (w2.setCell ⟨b, 1, none⟩ v')) := by
    have hkinds : Go.Lib.OthersKept 5 (some b) w1 w2 := ((Go.Lib.OthersKept.refl _ _ w1).alloc _).grown hgrow (Go.Lib.ownsRowF_kind (hown.alloc _))
    refine ⟨.inr (Go.Lib.BuilderAtF.put hB hb2 ?_ (by decide)), ⟨?_, ?_⟩⟩
    · rw [Go.Lib.byteCells_append, List.length_append, Go.Lib.byteCells_length]
      exact hown'
    · exact ((HK1.out.below.alloc (by omega) _).grown hgrow (by simp; omega) (fun k hk => (hown.lt k hk).1)).setCell (p := ⟨b, 1, none⟩) hB _
    · exact (HK1.out.others.trans hkinds).setCell ⟨b, 1, none⟩ rfl _
  obtain ⟨ao, n', cap', rfl⟩ : ∃ ao n cap, v' = .slice ao n cap := by
    rcases hown'.2 with ⟨e, _⟩ | ⟨g, cap, cur, fz, e, _⟩
    · exact ⟨_, _, _, e⟩
    · exact ⟨_, _, _, e⟩
  clear hown' hgrow hown HK1 HBK hb2 hne
  go_wp2_with fail
  go_ret
  exact ⟨rfl, HQ.out⟩
theorem b_strA (B b : Nat) (l : List UInt8) (w : World) (h : BldF B b l w) (hBw : B ≤ w.heap.size) :
    Calls Tryz.prog 37 #[.pointer (some ⟨b, 0, none⟩)] w fun e w' => e = .returned (.string ⟨l.toArray⟩) ∧ BldF B b l w' ∧ BKeep B b w w' :=
  (Tryz.Builder_String_any_k B b l w h hBw).mono fun e w' ⟨h1, h2, h3, h4⟩ => ⟨h1, h2, ⟨h3, h4⟩⟩
end Go.Proofs.YtijkekkjiboomaaGreatDoor
