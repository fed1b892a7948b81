/- The document's Diff is the program's: no Go in it. -/
import Derived.Test.YtijkekkjiboomaaGreatDoorVwJ
import Derived.Test.YtijkekkjiboomaaGreatDoorVxI
import Derived.Test.YtijkekkjiboomaaGreatDoorVxK
import Derived.Test.YtijkekkjiboomaaGreatDoorPart26
namespace Go.Proofs.YtijkekkjiboomaaGreatDoor
open Go.RowKit Go.Maps
set_option linter.unusedVariables false
set_option linter.unusedSimpArgs false

theorem IsLcp.cons {α : Type} {x y : List α} {n : Nat} (a : α) (h : IsLcp x y n) : IsLcp (a :: x) (a :: y) (n + 1) := by
  have := h.pre [a]
  rw [List.length_singleton, Nat.add_comm] at this
  exact this
theorem IsLcp.differ {α : Type} {x y : List α} {a b : α} (h : a ≠ b) : IsLcp (a :: x) (b :: y) 0 := ⟨Nat.zero_le _, Nat.zero_le _, rfl, fun _ _ => h⟩
theorem one_cf {r : Rn} (h : r.us.length = 1) : Cf [r] := ⟨fun x hx => by rw [List.mem_singleton.1 hx, ← us_len]; omega, fun a b pre post e => by
  have := congrArg List.length e
  simp at this
  omega⟩
theorem sameR_un {a b : Rn} (ha : (a.Ok ∧ a.Dbl) ∧ a.nrm.us = [unOf a]) (hb : (b.Ok ∧ b.Dbl) ∧ b.nrm.us = [unOf b]) : sameR a b = true ↔ unOf a = unOf b := by
  rw [sameR_iff ha.1.2 hb.1.2]
  constructor
  · intro e
    have := congrArg Rn.us e
    rw [ha.2, hb.2] at this
    simpa using this
  · intro e
    have hok : ∀ {r : Rn}, r.Ok → r.nrm.Ok := fun h => h.nrm
    have h1 : unitsV [a.nrm] = unitsV [b.nrm] := by rw [unitsV_one, unitsV_one, ha.2, hb.2, e]
    have := Cf.eq (one_cf (by rw [ha.2]; rfl)) (one_cf (by rw [hb.2]; rfl)) (fun r hr => by rw [List.mem_singleton.1 hr]; exact hok ha.1.1) (fun r hr => by rw [List.mem_singleton.1 hr]; exact hok hb.1.1) h1
    simpa using this
theorem lcpR_is : ∀ {X Y : List Rn}, Ones X → Ones Y → IsLcp (X.map unOf) (Y.map unOf) (lcpR X Y)
  | [], Y, _, _ => by cases Y <;> exact IsLcp.nil_left _
  | a :: x, [], _, _ => IsLcp.nil_right _
  | a :: x, b :: y, hX, hY => by
    have ih := lcpR_is (X := x) (Y := y) (fun r hr => hX r (List.mem_cons_of_mem _ hr)) (fun r hr => hY r (List.mem_cons_of_mem _ hr))
    have hs := sameR_un (hX a (by simp)) (hY b (by simp))
    unfold lcpR
    rw [List.map_cons, List.map_cons]
    split
    · next h => rw [hs.1 h]; exact ih.cons _
    · next h => exact IsLcp.differ fun e => h (hs.2 e)
/-- Both tell the same difference. -/
theorem diff_join {A B : List Rn} (oa : OkL A) (ob : OkL B) : lcpR (unitsR A) (unitsR B) = dfA A B ∧ endR (unitsR A) (unitsR B) (dfA A B) = dfE A B := by
  obtain ⟨x1, x2⟩ := unitsR_ones oa
  obtain ⟨y1, y2⟩ := unitsR_ones ob
  have hx := x1.us
  have hy := y1.us
  rw [x2] at hx
  rw [y2] at hy
  have h := (dfP_is oa ob).1
  have k : IsDiff (nrmU A) (nrmU B) (lcpR (unitsR A) (unitsR B)) (endR (unitsR A) (unitsR B) (lcpR (unitsR A) (unitsR B))) := by
    rw [hx, hy]
    refine ⟨lcpR_is x1 y1, ?_⟩
    have o : ∀ {l : List Rn} (n : Nat), Ones l → Ones (l.drop n).reverse := fun {l} n h r hr => h r (List.mem_of_mem_drop (List.mem_reverse.1 hr))
    have := lcpR_is (o (lcpR (unitsR A) (unitsR B)) x1) (o (lcpR (unitsR A) (unitsR B)) y1)
    rw [List.map_reverse, List.map_reverse, List.map_drop, List.map_drop] at this
    exact this
  obtain ⟨e1, e2⟩ := k.uniq h
  exact ⟨e1, by rw [← e2, e1]⟩
end Go.Proofs.YtijkekkjiboomaaGreatDoor

/- Views: what the statements are asked of; light runs. -/
namespace Go.Proofs.YtijkekkjiboomaaGreatDoor
open Go.RowKit Go.Maps
set_option linter.unusedVariables false
set_option linter.unusedSimpArgs false
set_option maxRecDepth 100000

theorem taken_v (v : V) (hf : v.fits) (h : refCheck v = 0) : v.taken := by
  obtain ⟨k, n, f, s⟩ := v
  have hv : vOk ⟨k, n, f, s⟩ = true := by
    unfold refCheck at h
    cases hv : vOk ⟨k, n, f, s⟩
    · rw [hv] at h; simp at h
    · rfl
  have hs : s.toList.isEmpty = true → s = ⟨#[]⟩ := by
    intro e
    rw [ByteArray.toList_eq] at e
    have : s.data.toList = [] := by simpa using e
    exact ByteArray.ext (Array.ext' this)
  unfold vOk at hv
  simp only at hv
  split at hv
  · rename_i hk
    simp only [Bool.and_eq_true, beq_iff_eq] at hv
    exact ⟨hf, by simp only; omega, fun _ _ => hv.1.1, fun e => by simp only at e; omega, fun _ => by simp only; omega, fun _ => hs hv.2⟩
  split at hv
  · rename_i hk hk1
    simp only [Bool.and_eq_true, beq_iff_eq, Bool.or_eq_true] at hv
    exact ⟨hf, by simp only; omega, fun e => absurd hk1 e, fun _ => hv.1.1, fun _ => by simp only; omega, fun _ => hs hv.2⟩
  split at hv
  · rename_i hk hk1 hk2
    simp only [Bool.and_eq_true, beq_iff_eq] at hv
    exact ⟨hf, by simp only; omega, fun _ e => absurd hk2 e, fun e => absurd e hk1, fun _ => by simp only; omega, fun _ => hs hv.2⟩
  split at hv
  · rename_i hk hk1 hk2 hk3
    simp only [Bool.and_eq_true, beq_iff_eq] at hv
    exact ⟨hf, by simp only; omega, fun _ _ => hv.1, fun e => absurd e hk1, fun e => absurd hk3 e, fun _ => hs hv.2⟩
  split at hv
  · rename_i hk hk1 hk2 hk3 hk4
    simp only [Bool.and_eq_true, beq_iff_eq] at hv
    exact ⟨hf, by simp only; omega, fun _ _ => hv.1.1.1, fun e => absurd e hk1, fun _ => by simp only; omega, fun e => absurd hk4 e⟩
  · cases hv
/-- A list of runs, as it comes in. -/
structure ArgR (w : World) (v : Value) (L : List Rn) : Prop where
  r : SlRn w v L
  f : ∀ x ∈ L, x.v.fits ∧ ∀ m ∈ x.ml, m.v.fits
  b : wtL L ≤ 100000000
theorem ArgR.touch {w w' : World} {v : Value} {L : List Rn} (h : ArgR w v L) (t : Touch (fun _ => False) w w') : ArgR w' v L := ⟨h.r.touch t, h.f, h.b⟩
theorem amgm (a b : Nat) : 4 * (a * b) ≤ (a + b) * (a + b) := by
  rcases Nat.le_total a b with h | h
  · obtain ⟨k, rfl⟩ := Nat.le.dest h
    have e : (a + (a + k)) * (a + (a + k)) = 4 * (a * (a + k)) + k * k := by
      simp only [Nat.add_mul, Nat.mul_add]
      have e1 : k * a = a * k := Nat.mul_comm _ _
      omega
    omega
  · obtain ⟨k, rfl⟩ := Nat.le.dest h
    have e : (b + k + b) * (b + k + b) = 4 * ((b + k) * b) + k * k := by
      simp only [Nat.add_mul, Nat.mul_add]
      have e1 : k * b = b * k := Nat.mul_comm _ _
      omega
    omega
def sTx (L : List Rn) : Nat := (L.map fun x => x.tx.size).sum
def sMl (L : List Rn) : Nat := (L.map fun x => x.ml.length).sum
theorem tot_sums (L : List Rn) : tot L = sTx L + sMl L + L.length := by
  induction L with
  | nil => rfl
  | cons x L ih => rw [tot_cons, ih]; simp [sTx, sMl]; omega
theorem wt_sums (L : List Rn) : L.length + sTx L + 3 * sMl L ≤ wtL L := by
  induction L with
  | nil => simp [sTx, sMl, wtL]
  | cons x L ih => simp only [sTx, sMl, wtL, List.map_cons, List.sum_cons, List.length_cons, wtx] at *; omega
theorem enc_one_len (c : Nat) : (strOf (encAll [c])).size ≤ 4 := by
  rw [strOf_size, encAll_cons, encAll_nil, List.append_nil]
  exact (encR_len c).2
theorem rs_le (s : ByteArray) : (rsOf s.data.toList).length ≤ s.size := by
  have := rsOf_len s.data.toList
  have e : s.data.toList.length = s.size := by rw [Array.length_toList]; rfl
  omega
theorem one_le_sum : ∀ {l : List Nat} {n : Nat}, n ∈ l → n ≤ l.sum
  | x :: l, n, h => by
    rw [List.sum_cons]
    rcases List.mem_cons.1 h with rfl | h
    · omega
    · have := one_le_sum h; omega
theorem oneR_tot (x : Rn) : tot (oneR x) ≤ 5 * x.tx.size + x.tx.size * x.ml.length + x.ml.length + 1 := by
  unfold oneR
  split
  · rw [tot_cons]
    have e : tot [] = 0 := rfl
    have := Nat.zero_le (x.tx.size * x.ml.length)
    omega
  · have hr := rs_le x.tx
    have key : ∀ l : List Nat, tot (l.map fun c => (⟨strOf (encAll [c]), false, vz, x.ml⟩ : Rn)) ≤ l.length * (x.ml.length + 5) := fun l => by
      induction l with
      | nil => simp [tot]
      | cons c l ih =>
        rw [List.map_cons, tot_cons, List.length_cons, Nat.succ_mul]
        have := enc_one_len c
        simp only at *
        omega
    have h1 := key x.rs
    have h2 : x.rs.length * (x.ml.length + 5) ≤ x.tx.size * (x.ml.length + 5) := Nat.mul_le_mul_right _ hr
    have h3 : x.tx.size * (x.ml.length + 5) = x.tx.size * x.ml.length + x.tx.size * 5 := Nat.mul_add _ _ _
    omega
theorem units_tot : ∀ L : List Rn, tot (unitsR L) ≤ 6 * sTx L + sTx L * sMl L + sMl L + L.length
  | [] => by simp [unitsR, tot]
  | x :: L => by
    have ih := units_tot L
    have h1 := oneR_tot x
    rw [unitsR_cons, tot_append]
    have e1 : sTx (x :: L) = x.tx.size + sTx L := by simp [sTx]
    have e2 : sMl (x :: L) = x.ml.length + sMl L := by simp [sMl]
    have e3 : (x.tx.size + sTx L) * (x.ml.length + sMl L) = x.tx.size * x.ml.length + x.tx.size * sMl L + (sTx L * x.ml.length + sTx L * sMl L) := by rw [Nat.add_mul, Nat.mul_add, Nat.mul_add]
    rw [e1, e2, e3, List.length_cons]
    have := Nat.zero_le (x.tx.size * sMl L)
    have := Nat.zero_le (sTx L * x.ml.length)
    omega
theorem v_ext {v : V} (h1 : v.k = 0) (h2 : v.n = 0) (h3 : v.f = 0) (h4 : v.s = ⟨#[]⟩) : v = vz := by
  obtain ⟨k, n, f, s⟩ := v
  simp only at h1 h2 h3 h4
  subst h1 h2 h3 h4
  rfl
/-- What is so of a light list. -/
structure Lt (L : List Rn) : Prop where
  ok : OkL L
  t : tot L ≤ 2000
  u : tot (unitsR L) ≤ 400000
  k : ∀ x ∈ L, TakR x
  w : wtL L ≤ 2000
  n : L.length ≤ 100
theorem lt_of {w : World} {v : Value} {L : List Rn} (h : ArgR w v L) (l : LightP L) : Lt L := by
  have hs := wt_sums L
  have hw := l.wt
  have key : ∀ x ∈ L, x.tx.size ≤ 2000 ∧ x.v.s.size ≤ 2000 ∧ ∀ m ∈ x.ml, m.vs.size ≤ 2000 ∧ m.ky.size ≤ 2000 := fun x hx => by
    have h1 : wtx x ≤ wtL L := one_le_sum (List.mem_map_of_mem hx)
    have e : wtx x = 1 + x.tx.size + x.v.s.size + 3 * x.ml.length + (x.ml.map wtm).sum := rfl
    refine ⟨by omega, by omega, fun m hm => ?_⟩
    have h2 : wtm m ≤ (x.ml.map wtm).sum := one_le_sum (List.mem_map_of_mem hm)
    have e2 : wtm m = m.ky.size + m.vs.size := rfl
    constructor <;> omega
  refine ⟨fun x hx => ?_, ?_, ?_, fun x hx => ?_, hw, l.len⟩
  · have o := l.ok x hx
    have tk := taken_v x.v (h.f x hx).1 o.v
    refine ⟨⟨o.e, fun he => ⟨?_, o.t⟩⟩, ⟨(h.f x hx).1.f1, fun m hm => ((h.f x hx).2 m hm).f1⟩⟩
    have hk := o.k he
    have hn := tk.n (by omega) (by omega)
    have hf := tk.f (by omega)
    have hss := tk.s (by omega)
    exact v_ext hk hn hf hss
  · rw [tot_sums]; omega
  · have h1 := units_tot L
    have h2 := amgm (sTx L) (3 * sMl L)
    have h3 : sTx L + 3 * sMl L ≤ 2000 := by omega
    have h4 : (sTx L + 3 * sMl L) * (sTx L + 3 * sMl L) ≤ 2000 * 2000 := Nat.mul_le_mul h3 h3
    have h5 : sTx L * (3 * sMl L) = 3 * (sTx L * sMl L) := Nat.mul_left_comm _ _ _
    omega
  · have o := l.ok x hx
    obtain ⟨k1, k2, k3⟩ := key x hx
    refine ⟨fun _ => taken_v x.v (h.f x hx).1 o.v, by omega, by omega, fun m hm => ⟨taken_v m.v ((h.f x hx).2 m hm) (o.m m hm), ?_, ?_⟩⟩
    · have := (k3 m hm).1; omega
    · have := (k3 m hm).2; omega
/-- quirelaw14.same. -/
theorem same_any {w : World} {va vb : Value} {A B : List Rn} (ha : SlRn w va A) (hb : SlRn w vb B) (da : ∀ r ∈ A, r.Dbl) (db : ∀ r ∈ B, r.Dbl) (la : A.length ≤ 1048576) (lb : B.length ≤ 1048576) :
    Calls Tryz.prog 19 #[va, vb] w fun e w' => e = .returned (.bool (sameRL A B)) ∧ Touch (fun _ => False) w w' := by
  have HC : Hid (Calls Tryz.prog 47 #[va, vb] w fun e w' => e = .returned (.bool (sameRL A B)) ∧ Touch (fun _ => False) w w') := qruns_any ha hb da db la lb
  obtain ⟨ao, ca, rfl, -, -, -⟩ := ha.shape
  obtain ⟨bo, cb, rfl, -, -, -⟩ := hb.shape
  clear ha hb da db la lb
  generalize sameRL A B = r at *
  go_enter Tryz.func19, Tryz.ntmps19
  go_wp2_with fail
  refine HC.out.mono ?_
  rintro e w1 ⟨rfl, t1⟩
  have HT : Hid (Touch (fun _ => False) w w1) := t1
  clear t1 HC
  go_wp2_with fail
  go_ret
  exact ⟨rfl, HT.out⟩
theorem tot_list (L : List Rn) (h : tot L ≤ 1048576) : L.length ≤ 1048576 := Nat.le_trans (tot_len L) h
theorem OkL.dbl {L : List Rn} (h : OkL L) : ∀ r ∈ L, r.Dbl := fun r hr => (h r hr).2
theorem cn_dbl {L : List Rn} {us : List Un} (h : Cn L us) : ∀ r ∈ L, r.Dbl := fun r hr => (h.ok r hr).2.1
/-- The document's list is the program's. -/
theorem same_join {P R : List Rn} {us : List Un} (hp : Cn P us) (hr : R.map Rn.nrm = P) (dr : ∀ r ∈ R, r.Dbl) : sameRL P R = true := (sameRL_iff (cn_dbl hp) dr).2 (by rw [hp.nrm, hr])
theorem clean_twice {L : List Rn} (h : OkL L) : cleanP (cleanP L) = cleanP L := by
  have h1 := cleanP_cn h
  have h2 := cleanP_cn h1.okL
  have e : unitsV ((cleanP L).map Rn.nrm) = unitsV (L.map Rn.nrm) := by rw [h1.nrm, h1.un]
  rw [e] at h2
  exact h2.eq h1
end Go.Proofs.YtijkekkjiboomaaGreatDoor
