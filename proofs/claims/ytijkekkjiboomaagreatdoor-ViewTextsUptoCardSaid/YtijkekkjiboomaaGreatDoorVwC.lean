/- Views: Cut and Patch, the program's and the document's (no Go in it). -/
import Derived.Test.YtijkekkjiboomaaGreatDoorPart13
namespace Go.Proofs.YtijkekkjiboomaaGreatDoor
open Go.RowKit
set_option linter.unusedVariables false
set_option linter.unusedSimpArgs false

/-- All of a list are runs that are looked at. -/
abbrev OkL (l : List Rn) : Prop := ∀ r ∈ l, r.Ok ∧ r.Dbl
abbrev nrmU (l : List Rn) : List Un := unitsV (l.map Rn.nrm)
theorem nrmU_cons (r : Rn) (l : List Rn) : nrmU (r :: l) = r.nrm.us ++ nrmU l := by show unitsV (_ :: _) = _; rw [unitsV_cons]
theorem nrmU_append (a b : List Rn) : nrmU (a ++ b) = nrmU a ++ nrmU b := by show unitsV ((a ++ b).map _) = _; rw [List.map_append, unitsV_append]
theorem nrmU_len (l : List Rn) : (nrmU l).length = lenL l := by
  show (unitsV _).length = _
  rw [unitsV_len]
  unfold lenL
  rw [List.map_map]; rfl
theorem OkL.append {a b : List Rn} (ha : OkL a) (hb : OkL b) : OkL (a ++ b) := fun r hr => (List.mem_append.1 hr).elim (ha r) (hb r)
theorem Cn.okL {A : List Rn} {us : List Un} (h : Cn A us) : OkL A := fun r hr => ⟨(h.ok r hr).1, (h.ok r hr).2.1⟩
theorem Cn.nrmU {A : List Rn} {us : List Un} (h : Cn A us) : nrmU A = us := by show unitsV (A.map Rn.nrm) = us; rw [h.nrm, h.un]
/-- What of a run stands from `fr` on below `til`. -/
def pieceP (r : Rn) (fr til : Int) : Rn := if r.em = true then r else ⟨cutOf r.tx.data.toList fr til, r.em, r.v, r.ml⟩
def piecesP (fr til : Int) : Int → List Rn → List Rn
  | _, [] => []
  | ah, r :: l => if til ≤ ah then [] else (if fr < ah + r.len then [pieceP r (fr - ah) (til - ah)] else []) ++ piecesP fr til (ah + r.len) l
/-- The program's Cut. -/
def cutP (l : List Rn) (fr til : Int) : List Rn := cleanP (piecesP (max fr 0) til 0 l)
theorem cutOf_runes (l : List UInt8) (fr til : Int) : runesOf (cutOf l fr til).data.toList = some (cutR (rsOf l) fr til) := by
  unfold cutOf
  rw [strOf_list]
  refine runesOf_enc _ fun c hc => ?_
  unfold cutR at hc
  exact rsOf_ok _ _ (List.mem_of_mem_take (List.mem_of_mem_drop hc))
theorem pieceP_ok {r : Rn} (h : r.Ok ∧ r.Dbl) (fr til : Int) : (pieceP r fr til).Ok ∧ (pieceP r fr til).Dbl := by
  unfold pieceP
  split
  · exact h
  · next he =>
    have he1 : r.em = false := by simpa using he
    exact ⟨⟨fun q => absurd q he, fun _ => ⟨(h.1.t he1).1, by rw [cutOf_runes]; rfl⟩⟩, ⟨h.2.v, h.2.m⟩⟩
theorem piecesP_ok {fr til : Int} : ∀ {l : List Rn} {ah : Int}, OkL l → OkL (piecesP fr til ah l)
  | [], _, _, r, h => by cases h
  | x :: l, ah, hl, r, h => by
    unfold piecesP at h
    split at h
    · cases h
    · rcases List.mem_append.1 h with h | h
      · split at h
        · rw [List.mem_singleton.1 h]; exact pieceP_ok (hl x (by simp)) _ _
        · cases h
      · exact piecesP_ok (fun y hy => hl y (List.mem_cons_of_mem _ hy)) r h
theorem pieceP_us {r : Rn} {fr til : Int} (hf : fr < r.len) (ht : 0 < til) : (pieceP r fr til).nrm.us = (r.nrm.us.take til.toNat).drop fr.toNat := by
  unfold pieceP
  by_cases he : r.em = true
  · rw [if_pos he]
    have h1 : r.len = 1 := by unfold Rn.len; rw [if_pos he]
    have h2 : r.nrm.us = [⟨true, 0, vClean r.v, r.ml.map mkN⟩] := by unfold Rn.us; rw [if_pos (show r.nrm.em = true from he)]; rfl
    rw [h1] at hf
    have e1 : til.toNat = (til.toNat - 1) + 1 := by omega
    have e2 : fr.toNat = 0 := by omega
    rw [h2, e2, e1, List.take_succ_cons, List.drop_zero]
    simp
  · rw [if_neg he]
    unfold Rn.us
    rw [if_neg (show ¬ (Rn.nrm ⟨cutOf r.tx.data.toList fr til, r.em, r.v, r.ml⟩).em = true from he), if_neg (show ¬ r.nrm.em = true from he)]
    show (rsOf (cutOf r.tx.data.toList fr til).data.toList).map _ = _
    rw [rsOf_some (cutOf_runes _ _ _)]
    unfold cutR
    rw [List.map_drop, List.map_take]
    rfl
theorem take_drop_append {α : Type} (x y : List α) (t f : Nat) : ((x ++ y).take t).drop f = (x.take t).drop f ++ (y.take (t - x.length)).drop (f - x.length) := by
  rw [List.take_append, List.drop_append]
  congr 1
  rcases Nat.lt_or_ge t x.length with h | h
  · have : t - x.length = 0 := by omega
    rw [this]; simp
  · rw [List.take_of_length_le h]
theorem piecesP_us {fr til : Int} (h0 : 0 ≤ fr) : ∀ (l : List Rn) (ah : Int), 0 ≤ ah → nrmU (piecesP fr til ah l) = ((nrmU l).take (til - ah).toNat).drop (fr - ah).toNat
  | [], ah, _ => by simp [piecesP, unitsV]
  | r :: l, ah, ha => by
    have ih := piecesP_us (til := til) h0 l (ah + r.len) (by omega)
    have hul : r.nrm.us.length = r.len := by rw [us_len, nrm_len]
    unfold piecesP
    by_cases ht : til ≤ ah
    · rw [if_pos ht]
      have : (til - ah).toNat = 0 := by omega
      rw [this]; simp [unitsV]
    · rw [if_neg ht, nrmU_append, ih, nrmU_cons, take_drop_append, hul]
      have e1 : (til - (ah + r.len)).toNat = (til - ah).toNat - r.len := by omega
      have e2 : (fr - (ah + r.len)).toNat = (fr - ah).toNat - r.len := by omega
      rw [e1, e2]
      congr 1
      by_cases hb : fr < ah + r.len
      · rw [if_pos hb]
        show unitsV [_] = _
        rw [unitsV_one]
        exact pieceP_us (by omega) (by omega)
      · rw [if_neg hb]
        have : r.len ≤ (fr - ah).toNat := by omega
        rw [List.drop_of_length_le (by rw [List.length_take, hul]; omega)]
        rfl
theorem cutP_cn {l : List Rn} (hl : OkL l) (fr til : Int) : Cn (cutP l fr til) (((nrmU l).take til.toNat).drop fr.toNat) := by
  have h := cleanP_cn (piecesP_ok (fr := max fr 0) (til := til) (ah := 0) hl)
  have e := piecesP_us (fr := max fr 0) (til := til) (by omega) l 0 (Int.le_refl _)
  have e1 : (max fr 0).toNat = fr.toNat := by omega
  rw [Int.sub_zero, Int.sub_zero, e1] at e
  unfold cutP
  rw [← e]; exact h
/-- The program's Patch. -/
def patAt (a : List Rn) (at_ : Int) : Int := min (max at_ 0) (lenL a)
def patN (a : List Rn) (at_ n : Int) : Int := min (max n 0) (lenL a - patAt a at_)
def patchP (a : List Rn) (at_ n : Int) (l : List Rn) : List Rn := cleanP (cutP a 0 (patAt a at_) ++ l ++ cutP a (patAt a at_ + patN a at_ n) (lenL a))
theorem patchP_cn {a l : List Rn} (ha : OkL a) (hl : OkL l) (at_ n : Int) : Cn (patchP a at_ n l) ((nrmU a).take (patAt a at_).toNat ++ nrmU l ++ (nrmU a).drop (patAt a at_ + patN a at_ n).toNat) := by
  have h1 := cutP_cn ha 0 (patAt a at_)
  have h2 := cutP_cn ha (patAt a at_ + patN a at_ n) (lenL a)
  have h := cleanP_cn ((h1.okL.append hl).append h2.okL)
  have e : unitsV ((cutP a 0 (patAt a at_) ++ l ++ cutP a (patAt a at_ + patN a at_ n) (lenL a)).map Rn.nrm) = (nrmU a).take (patAt a at_).toNat ++ nrmU l ++ (nrmU a).drop (patAt a at_ + patN a at_ n).toNat := by
    have e1 := h1.nrmU
    have e2 := h2.nrmU
    show nrmU _ = _
    rw [nrmU_append, nrmU_append, e1, e2, List.take_of_length_le (i := ((lenL a : Int)).toNat) (l := nrmU a) (by rw [nrmU_len]; omega)]
    simp
  rw [e] at h
  exact h
/-- The document's units: a run each. -/
def oneR (r : Rn) : List Rn := if r.em = true then [r] else r.rs.map fun c => ⟨strOf (encAll [c]), false, vz, r.ml⟩
def unitsR (l : List Rn) : List Rn := l.flatMap oneR
theorem oneR_len (r : Rn) : (oneR r).length = r.len := by unfold oneR Rn.len; split <;> simp
theorem unitsR_cons (r : Rn) (l : List Rn) : unitsR (r :: l) = oneR r ++ unitsR l := by simp [unitsR]
theorem unitsR_len (l : List Rn) : (unitsR l).length = lenL l := by
  induction l with
  | nil => rfl
  | cons r l ih => rw [unitsR_cons, List.length_append, oneR_len, ih, lenL_cons]
/-- What a run of one unit is. -/
def unOf (r : Rn) : Un := if r.em = true then ⟨true, 0, vClean r.v, r.ml.map mkN⟩ else ⟨false, r.rs.headD 0, vz, r.ml.map mkN⟩
theorem one_rs {c : Nat} (h : okRune c) : rsOf (strOf (encAll [c])).data.toList = [c] ∧ runesOf (strOf (encAll [c])).data.toList = some [c] := by
  rw [strOf_list]
  have := runesOf_enc [c] fun r hr => by rw [List.mem_singleton.1 hr]; exact h
  exact ⟨rsOf_some this, this⟩
theorem oneR_ok {r : Rn} (h : r.Ok ∧ r.Dbl) : (∀ x ∈ oneR r, (x.Ok ∧ x.Dbl) ∧ x.nrm.us = [unOf x]) ∧ (oneR r).map unOf = r.nrm.us := by
  unfold oneR
  by_cases he : r.em = true
  · rw [if_pos he]
    have e : r.nrm.us = [unOf r] := by
      unfold Rn.us unOf
      rw [if_pos (show r.nrm.em = true from he), if_pos he]; rfl
    refine ⟨fun x hx => ?_, e.symm⟩
    rw [List.mem_singleton.1 hx]
    exact ⟨h, e⟩
  · rw [if_neg he]
    refine ⟨fun x hx => ?_, ?_⟩
    · obtain ⟨c, hc, rfl⟩ := List.mem_map.1 hx
      obtain ⟨o1, o2⟩ := one_rs (rsOf_ok _ _ hc)
      have k1 : Rn.Ok ⟨strOf (encAll [c]), false, vz, r.ml⟩ := ⟨fun q => (by cases q), fun _ => ⟨rfl, by rw [o2]; rfl⟩⟩
      have k2 : Rn.Dbl ⟨strOf (encAll [c]), false, vz, r.ml⟩ := ⟨by show (0 : Nat) < _; omega, h.2.m⟩
      refine ⟨⟨k1, k2⟩, ?_⟩
      unfold Rn.us unOf
      rw [if_neg (by simp [Rn.nrm]), if_neg (by simp)]
      show (rsOf (strOf (encAll [c])).data.toList).map _ = ([⟨false, (rsOf (strOf (encAll [c])).data.toList).headD 0, vz, r.ml.map mkN⟩] : List Un)
      rw [o1]; rfl
    · unfold Rn.us
      rw [if_neg (show ¬ r.nrm.em = true from he), List.map_map]
      refine List.map_congr_left fun c hc => ?_
      obtain ⟨o1, o2⟩ := one_rs (rsOf_ok _ _ hc)
      show unOf ⟨strOf (encAll [c]), false, vz, r.ml⟩ = ⟨false, c, vz, r.ml.map mkN⟩
      unfold unOf
      rw [if_neg (by simp)]
      show (⟨false, (rsOf (strOf (encAll [c])).data.toList).headD 0, vz, r.ml.map mkN⟩ : Un) = _
      rw [o1]; rfl
/-- Runs of one unit each. -/
abbrev Ones (l : List Rn) : Prop := ∀ x ∈ l, (x.Ok ∧ x.Dbl) ∧ x.nrm.us = [unOf x]
theorem Ones.okL {l : List Rn} (h : Ones l) : OkL l := fun x hx => (h x hx).1
theorem Ones.us {l : List Rn} (h : Ones l) : nrmU l = l.map unOf := by
  induction l with
  | nil => rfl
  | cons r l ih => rw [nrmU_cons, (h r (by simp)).2, ih fun x hx => h x (List.mem_cons_of_mem _ hx)]; rfl
theorem unitsR_ones {l : List Rn} (h : OkL l) : Ones (unitsR l) ∧ nrmU (unitsR l) = nrmU l := by
  have h1 : Ones (unitsR l) := fun x hx => by
    obtain ⟨r, hr, hx⟩ := List.mem_flatMap.1 hx
    exact (oneR_ok (h r hr)).1 x hx
  refine ⟨h1, ?_⟩
  rw [h1.us]
  clear h1
  induction l with
  | nil => rfl
  | cons r l ih =>
    rw [unitsR_cons, List.map_append, (oneR_ok (h r (by simp))).2, ih (fun x hx => h x (List.mem_cons_of_mem _ hx)), nrmU_cons]
theorem Ones.cut {l : List Rn} (h : Ones l) (t f : Nat) : Ones ((l.take t).drop f) ∧ nrmU ((l.take t).drop f) = ((nrmU l).take t).drop f := by
  have h1 : Ones ((l.take t).drop f) := fun x hx => h x (List.mem_of_mem_take (List.mem_of_mem_drop hx))
  exact ⟨h1, by rw [h1.us, h.us, List.map_drop, List.map_take]⟩
/-- The document's Cut. -/
def cutRf (l : List Rn) (fr til : Int) : List Rn := if min til (lenL l) ≤ max fr 0 then [] else cleanR (((unitsR l).take (min til (lenL l)).toNat).drop (max fr 0).toNat)
theorem cutRf_nrm {l : List Rn} (h : OkL l) (fr til : Int) : (cutRf l fr til).map Rn.nrm = cutP l fr til ∧ OkL (cutRf l fr til) := by
  have hc := cutP_cn h fr til
  have hul := nrmU_len l
  unfold cutRf
  by_cases hz : min til (lenL l) ≤ max fr 0
  · rw [if_pos hz]
    have e : ((nrmU l).take til.toNat).drop fr.toNat = [] := List.drop_of_length_le (by rw [List.length_take, hul]; omega)
    rw [e] at hc
    exact ⟨(hc.eq Cn.nil).symm, fun r hr => by cases hr⟩
  · rw [if_neg hz]
    obtain ⟨o1, o2⟩ := unitsR_ones h
    obtain ⟨o3, o4⟩ := o1.cut (min til (lenL l)).toNat (max fr 0).toNat
    obtain ⟨c1, c2⟩ := cleanR_nrm o3.okL
    refine ⟨?_, c2⟩
    rw [c1]
    have h2 := cleanP_cn o3.okL
    have e : unitsV ((((unitsR l).take (min til (lenL l)).toNat).drop (max fr 0).toNat).map Rn.nrm) = ((nrmU l).take til.toNat).drop fr.toNat := by
      show nrmU _ = _
      rw [o4, o2]
      have e1 : (max fr 0).toNat = fr.toNat := by omega
      rw [e1]
      by_cases hb : til ≤ lenL l
      · have : (min til (lenL l)).toNat = til.toNat := by omega
        rw [this]
      · have e3 : (min til (lenL l)).toNat = lenL l := by omega
        rw [e3, List.take_of_length_le (by rw [hul]; omega), List.take_of_length_le (by rw [hul]; omega)]
    rw [e] at h2
    exact h2.eq hc
/-- The document's Patch. -/
def patchRf (a : List Rn) (at_ n : Int) (l : List Rn) : List Rn := cleanR ((unitsR a).take (patAt a at_).toNat ++ l ++ (unitsR a).drop (patAt a at_ + patN a at_ n).toNat)
theorem patchRf_nrm {a l : List Rn} (ha : OkL a) (hl : OkL l) (at_ n : Int) : (patchRf a at_ n l).map Rn.nrm = patchP a at_ n l ∧ OkL (patchRf a at_ n l) := by
  obtain ⟨o1, o2⟩ := unitsR_ones ha
  have t1 : Ones ((unitsR a).take (patAt a at_).toNat) := fun x hx => o1 x (List.mem_of_mem_take hx)
  have t2 : Ones ((unitsR a).drop (patAt a at_ + patN a at_ n).toNat) := fun x hx => o1 x (List.mem_of_mem_drop hx)
  have hok := (t1.okL.append hl).append t2.okL
  obtain ⟨c1, c2⟩ := cleanR_nrm hok
  unfold patchRf
  refine ⟨?_, c2⟩
  rw [c1]
  have h2 := cleanP_cn hok
  have e : unitsV (((unitsR a).take (patAt a at_).toNat ++ l ++ (unitsR a).drop (patAt a at_ + patN a at_ n).toNat).map Rn.nrm) = (nrmU a).take (patAt a at_).toNat ++ nrmU l ++ (nrmU a).drop (patAt a at_ + patN a at_ n).toNat := by
    show nrmU _ = _
    rw [nrmU_append, nrmU_append, t1.us, t2.us, List.map_take, List.map_drop, ← o1.us, o2]
  rw [e] at h2
  exact h2.eq (patchP_cn ha hl at_ n)
end Go.Proofs.YtijkekkjiboomaaGreatDoor
