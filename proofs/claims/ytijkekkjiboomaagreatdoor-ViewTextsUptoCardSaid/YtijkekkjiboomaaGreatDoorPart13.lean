/- Views: Clean, the program's and the document's (no Go in it). -/
import Derived.Test.YtijkekkjiboomaaGreatDoorPart10
import Derived.Test.YtijkekkjiboomaaGreatDoorPart7
namespace Go.Proofs.YtijkekkjiboomaaGreatDoor
open Go.RowKit
set_option linter.unusedVariables false
set_option linter.unusedSimpArgs false

/-- A run as the program lays it: its text told, an embed's not. -/
def bareT (r : Rn) : Rn := ⟨if r.em = true then ⟨#[]⟩ else r.tx, r.em, if r.em = true then vClean r.v else vz, r.ml.map mkN⟩
/-- A run's text goes on. -/
def Rn.more (a : Rn) (s : ByteArray) : Rn := ⟨a.tx ++ s, a.em, a.v, a.ml⟩
/-- One round of the program's Clean. -/
def clP (out : List Rn) (r : Rn) : List Rn :=
  if r.len = 0 then out else match out.getLast? with
  | none => out ++ [bareT r]
  | some a => if canJ a r = true then out.dropLast ++ [a.more r.tx] else out ++ [bareT r]
def cleanP (l : List Rn) : List Rn := l.foldl clP []
/-- One round of the document's Clean. -/
def clR (out : List Rn) (r : Rn) : List Rn :=
  if (!r.em && (r.tx.toList == [])) = true then out else match out.getLast? with
  | none => out ++ [r]
  | some a => if (!r.em && (!a.em && sameL r.ml a.ml)) = true then out.dropLast ++ [a.more r.tx] else out ++ [r]
def cleanR (l : List Rn) : List Rn := l.foldl clR []
/-- In its form, and it has these units. -/
structure Cn (l : List Rn) (us : List Un) : Prop where
  cf : Cf l
  ok : ∀ r ∈ l, r.Ok ∧ r.Dbl ∧ r.nrm = r
  un : unitsV l = us
theorem Cn.eq {A B : List Rn} {us : List Un} (h : Cn A us) (k : Cn B us) : A = B := Cf.eq h.cf k.cf (fun r hr => (h.ok r hr).1) (fun r hr => (k.ok r hr).1) (h.un.trans k.un.symm)
theorem Cn.nil : Cn [] [] := ⟨Cf.nil, fun r h => (by cases h), rfl⟩
theorem Cn.nrm {A : List Rn} {us : List Un} (h : Cn A us) : A.map Rn.nrm = A := by
  conv => rhs; rw [← List.map_id A]
  exact List.map_congr_left fun r hr => (h.ok r hr).2.2
theorem Cn.len {A : List Rn} {us : List Un} (h : Cn A us) : lenL A = us.length := by rw [← unitsV_len, h.un]
theorem bareT_nrm {r : Rn} (h : r.Ok) : bareT r = r.nrm := by
  unfold bareT Rn.nrm
  by_cases he : r.em = true
  · rw [if_pos he, if_pos he, h.e he]
  · rw [if_neg he, if_neg he, (h.t (by simpa using he)).1, vClean_vz]
theorem len_zero {r : Rn} (h : r.len = 0) : r.em = false ∧ r.rs = [] ∧ r.nrm.us = [] := by
  have h1 : r.nrm.us.length = 0 := by rw [us_len, nrm_len, h]
  unfold Rn.len at h
  by_cases he : r.em = true
  · rw [if_pos he] at h; omega
  · rw [if_neg he] at h
    exact ⟨by simpa using he, List.length_eq_zero_iff.1 h, List.length_eq_zero_iff.1 h1⟩
theorem append_data (a b : ByteArray) : (a ++ b).data.toList = a.data.toList ++ b.data.toList := by simp [ByteArray.data_append]
theorem more_rs {a r : Rn} (ha : a.Ok) (hr : r.Ok) (h1 : a.em = false) (h2 : r.em = false) : runesOf (a.more r.tx).tx.data.toList = some (a.rs ++ r.rs) := by
  show runesOf (a.tx ++ r.tx).data.toList = _
  rw [append_data, ha.enc h1, hr.enc h2, ← encAll_append]
  exact runesOf_enc _ fun c hc => by
    rcases List.mem_append.1 hc with h | h
    · exact rsOf_ok _ _ h
    · exact rsOf_ok _ _ h
theorem getLast_cases {α : Type} (l : List α) : (l = [] ∧ l.getLast? = none) ∨ ∃ pre a, l = pre ++ [a] ∧ l.getLast? = some a ∧ l.dropLast = pre := by
  rcases List.eq_nil_or_concat l with h | ⟨pre, a, h⟩
  · exact .inl ⟨h, by rw [h]; rfl⟩
  · exact .inr ⟨pre, a, by rw [h, List.concat_eq_append], by rw [h]; simp, by rw [h]; simp⟩
theorem clP_cn {out : List Rn} {us : List Un} {r : Rn} (h : Cn out us) (hr : r.Ok) (hd : r.Dbl) : Cn (clP out r) (us ++ r.nrm.us) := by
  unfold clP
  by_cases h0 : r.len = 0
  · rw [if_pos h0, (len_zero h0).2.2, List.append_nil]; exact h
  · rw [if_neg h0]
    have hpos : 0 < r.nrm.len := by rw [nrm_len]; omega
    have hnew : (∀ a pre, out = pre ++ [a] → ¬ (a.em = false ∧ r.nrm.em = false ∧ a.ml = r.nrm.ml)) → Cn (out ++ [bareT r]) (us ++ r.nrm.us) := fun hj => by
      rw [bareT_nrm hr]
      refine ⟨h.cf.snoc hpos hj, fun x hx => ?_, by rw [unitsV_append, h.un, unitsV_one]⟩
      rcases List.mem_append.1 hx with hx | hx
      · exact h.ok x hx
      · rw [List.mem_singleton.1 hx]; exact ⟨hr.nrm, hd.nrm, nrm_idem r⟩
    rcases getLast_cases out with ⟨e, e1⟩ | ⟨pre, a, e, e1, e2⟩
    · rw [e1]
      exact hnew fun a pre q => by rw [e] at q; simp at q
    · rw [e1, e2]
      simp only
      have ha := h.ok a (by rw [e]; simp)
      have hs : canJ a r = true ↔ (a.em = false ∧ r.nrm.em = false ∧ a.ml = r.nrm.ml) := by
        unfold canJ
        have hm : a.ml.map mkN = a.ml := by have := congrArg Rn.ml ha.2.2; exact this
        rw [Bool.and_eq_true, Bool.and_eq_true, sameL_iff _ _ ha.2.1.m hd.m, hm]
        simp [Rn.nrm, and_assoc]
      by_cases hc : canJ a r = true
      · rw [if_pos hc]
        obtain ⟨c1, c2, c3⟩ := hs.1 hc
        have hrs := more_rs ha.1 hr c1 c2
        have hlen : 0 < (a.more r.tx).len := by
          have := h.cf.full a (by rw [e]; simp)
          unfold Rn.len at this ⊢
          rw [if_neg (by rw [c1]; simp)] at this
          rw [if_neg (by show ¬ a.em = true; rw [c1]; simp)]
          show 0 < (rsOf _).length
          rw [rsOf_some hrs, List.length_append]
          omega
        have hus : (a.more r.tx).us = a.us ++ r.nrm.us := by
          unfold Rn.us
          rw [if_neg (by show ¬ a.em = true; rw [c1]; simp), if_neg (by rw [c1]; simp), if_neg (by rw [c2]; simp)]
          show (rsOf _).map _ = _
          rw [rsOf_some hrs, List.map_append, ← c3]
          rfl
        have hcf : Cf pre := by have := h.cf; rw [e] at this; exact this.init
        refine ⟨hcf.snoc hlen fun b pre' q => ?_, fun x hx => ?_, ?_⟩
        · have := h.cf
          rw [e, q] at this
          exact this.last
        · rcases List.mem_append.1 hx with hx | hx
          · exact h.ok x (by rw [e]; simp [hx])
          · rw [List.mem_singleton.1 hx]
            refine ⟨⟨fun q => ?_, fun _ => ⟨(ha.1.t c1).1, by rw [hrs]; rfl⟩⟩, ⟨ha.2.1.v, ha.2.1.m⟩, ?_⟩
            · have q' : a.em = true := q
              rw [c1] at q'; cases q'
            · have e3 : vClean a.v = a.v := by have := congrArg Rn.v ha.2.2; exact this
              have e4 : a.ml.map mkN = a.ml := by have := congrArg Rn.ml ha.2.2; exact this
              show Rn.mk _ a.em (vClean a.v) (a.ml.map mkN) = _
              rw [e3, e4]; rfl
        · have h1 := h.un
          rw [e, unitsV_append, unitsV_one] at h1
          rw [unitsV_append, unitsV_one, hus, ← h1, List.append_assoc]
      · rw [if_neg hc]
        refine hnew fun b pre' q => ?_
        have e3 : b = a := by
          rw [e] at q
          have := List.append_inj' q rfl
          have := this.2
          simpa using this.symm
        rw [e3]
        exact fun q => hc (hs.2 q)
theorem foldP_cn : ∀ {l : List Rn} {out : List Rn} {us : List Un}, Cn out us → (∀ r ∈ l, r.Ok ∧ r.Dbl) → Cn (l.foldl clP out) (us ++ unitsV (l.map Rn.nrm))
  | [], out, us, h, _ => by simpa [unitsV] using h
  | r :: l, out, us, h, hl => by
    have := foldP_cn (clP_cn h (hl r (by simp)).1 (hl r (by simp)).2) (l := l) fun x hx => hl x (List.mem_cons_of_mem _ hx)
    rw [List.append_assoc] at this
    rw [List.map_cons, unitsV_cons]
    exact this
/-- The program's Clean answers the form of what it is handed. -/
theorem cleanP_cn {l : List Rn} (hl : ∀ r ∈ l, r.Ok ∧ r.Dbl) : Cn (cleanP l) (unitsV (l.map Rn.nrm)) := by
  have := foldP_cn Cn.nil hl
  rw [List.nil_append] at this
  exact this
theorem clR_nrm {out : List Rn} {r : Rn} (ho : ∀ a ∈ out, a.Ok ∧ a.Dbl) (hr : r.Ok) (hd : r.Dbl) : (clR out r).map Rn.nrm = clP (out.map Rn.nrm) r ∧ ∀ a ∈ clR out r, a.Ok ∧ a.Dbl := by
  have h0 : (!r.em && (r.tx.toList == [])) = true ↔ r.len = 0 := by
    unfold Rn.len
    by_cases he : r.em = true
    · rw [if_pos he, he]; simp
    · rw [if_neg he]
      have he1 : r.em = false := by simpa using he
      have h1 := hr.enc he1
      rw [he1, ByteArray.toList_eq]
      simp only [Bool.not_false, Bool.true_and, beq_iff_eq]
      constructor
      · intro h2; rw [h2] at h1
        show (rsOf r.tx.data.toList).length = 0
        rw [h2]; rfl
      · intro h2
        rw [h1, List.length_eq_zero_iff.1 h2]; rfl
  unfold clR clP
  by_cases hz : r.len = 0
  · rw [if_pos (h0.2 hz), if_pos hz]; exact ⟨rfl, ho⟩
  · rw [if_neg (fun q => hz (h0.1 q)), if_neg hz]
    have hall : ∀ a ∈ out ++ [r], a.Ok ∧ a.Dbl := fun a ha => by
      rcases List.mem_append.1 ha with h | h
      · exact ho a h
      · rw [List.mem_singleton.1 h]; exact ⟨hr, hd⟩
    rcases getLast_cases out with ⟨e, e1⟩ | ⟨pre, a, e, e1, e2⟩
    · rw [e1, e]
      simp only [List.map_nil, List.getLast?_nil, List.nil_append, List.map_cons]
      rw [e] at hall
      exact ⟨by rw [bareT_nrm hr], hall⟩
    · have e3 : (out.map Rn.nrm).getLast? = some a.nrm := by rw [e]; simp
      have e4 : (out.map Rn.nrm).dropLast = pre.map Rn.nrm := by rw [e]; simp
      rw [e1, e2, e3, e4]
      simp only
      have ha := ho a (by rw [e]; simp)
      have hs : (!r.em && (!a.em && sameL r.ml a.ml)) = true ↔ canJ a.nrm r = true := by
        unfold canJ
        rw [Bool.and_eq_true, Bool.and_eq_true, Bool.and_eq_true, Bool.and_eq_true, sameL_iff _ _ hd.m ha.2.m, sameL_iff _ _ ha.2.nrm.m hd.m]
        show _ ↔ ((!a.em) = true ∧ (!r.em) = true) ∧ (a.ml.map mkN).map mkN = _
        rw [map_mkN_idem]
        constructor
        · rintro ⟨x, y, z⟩; exact ⟨⟨y, x⟩, z.symm⟩
        · rintro ⟨⟨y, x⟩, z⟩; exact ⟨x, y, z.symm⟩
      by_cases hc : canJ a.nrm r = true
      · rw [if_pos (hs.2 hc), if_pos hc]
        have c := hs.2 hc
        rw [Bool.and_eq_true, Bool.and_eq_true] at c
        have c1 : r.em = false := by simpa using c.1
        have c2 : a.em = false := by simpa using c.2.1
        refine ⟨by simp [Rn.more, Rn.nrm], fun x hx => ?_⟩
        rcases List.mem_append.1 hx with h | h
        · exact ho x (by rw [e]; simp [h])
        · rw [List.mem_singleton.1 h]
          refine ⟨⟨fun q => ?_, fun _ => ⟨(ha.1.t c2).1, by rw [more_rs ha.1 hr c2 c1]; rfl⟩⟩, ⟨ha.2.v, ha.2.m⟩⟩
          have q' : a.em = true := q
          rw [c2] at q'; cases q'
      · rw [if_neg (fun q => hc (hs.1 q)), if_neg hc]
        refine ⟨?_, hall⟩
        rw [List.map_append, List.map_cons, List.map_nil, bareT_nrm hr]
theorem foldR_nrm : ∀ {l out : List Rn}, (∀ a ∈ out, a.Ok ∧ a.Dbl) → (∀ r ∈ l, r.Ok ∧ r.Dbl) → (l.foldl clR out).map Rn.nrm = l.foldl clP (out.map Rn.nrm) ∧ ∀ a ∈ l.foldl clR out, a.Ok ∧ a.Dbl
  | [], out, ho, _ => ⟨rfl, ho⟩
  | r :: l, out, ho, hl => by
    obtain ⟨h1, h2⟩ := clR_nrm ho (hl r (by simp)).1 (hl r (by simp)).2
    obtain ⟨h3, h4⟩ := foldR_nrm h2 (l := l) fun x hx => hl x (List.mem_cons_of_mem _ hx)
    refine ⟨?_, h4⟩
    rw [List.foldl_cons, h3, h1]; rfl
/-- The document's Clean is the program's, but for NaNs. -/
theorem cleanR_nrm {l : List Rn} (hl : ∀ r ∈ l, r.Ok ∧ r.Dbl) : (cleanR l).map Rn.nrm = cleanP l ∧ ∀ a ∈ cleanR l, a.Ok ∧ a.Dbl := foldR_nrm (fun a h => by cases h) hl
/-- Two runs are alike. -/
def sameR (a b : Rn) : Bool := (a.em == b.em) && ((a.tx.toList == b.tx.toList) && ((refCmp a.v b.v == 0) && sameL a.ml b.ml))
def sameRL (a b : List Rn) : Bool := decide (a.length = b.length) && (a.zip b).all fun p => sameR p.1 p.2
theorem sameR_iff {a b : Rn} (ha : a.Dbl) (hb : b.Dbl) : sameR a b = true ↔ a.nrm = b.nrm := by
  unfold sameR
  rw [Bool.and_eq_true, Bool.and_eq_true, Bool.and_eq_true, beq_iff_eq, beq_iff_eq (b := (0 : Int)), bytes_toList, refCmp_clean _ _ ha.v hb.v, sameL_iff _ _ ha.m hb.m]
  unfold Rn.nrm
  simp only [Rn.mk.injEq]
  constructor
  · rintro ⟨h1, h2, h3, h4⟩; exact ⟨h2, h1, h3, h4⟩
  · rintro ⟨h2, h1, h3, h4⟩; exact ⟨h1, h2, h3, h4⟩
theorem sameRL_cons (x y : Rn) (a b : List Rn) : sameRL (x :: a) (y :: b) = (sameR x y && sameRL a b) := by
  unfold sameRL
  simp only [List.length_cons, List.zip_cons_cons, List.all_cons, Nat.add_right_cancel_iff]
  cases sameR x y <;> cases decide (a.length = b.length) <;> simp
theorem sameRL_iff : ∀ {a b : List Rn}, (∀ r ∈ a, r.Dbl) → (∀ r ∈ b, r.Dbl) → (sameRL a b = true ↔ a.map Rn.nrm = b.map Rn.nrm)
  | [], [], _, _ => by simp [sameRL]
  | [], _ :: _, _, _ => by simp [sameRL]
  | _ :: _, [], _, _ => by simp [sameRL]
  | x :: a, y :: b, ha, hb => by
    have ih := sameRL_iff (a := a) (b := b) (fun m h => ha m (List.mem_cons_of_mem _ h)) (fun m h => hb m (List.mem_cons_of_mem _ h))
    rw [sameRL_cons, Bool.and_eq_true, sameR_iff (ha x (by simp)) (hb y (by simp)), ih]
    simp
theorem sameRL_self {a : List Rn} (ha : ∀ r ∈ a, r.Dbl) : sameRL a a = true := (sameRL_iff ha ha).2 rfl
end Go.Proofs.YtijkekkjiboomaaGreatDoor

/- The contracts of quireref3.PlaceOf, Cut. -/
namespace Go.Proofs.YtijkekkjiboomaaGreatDoor
open Go.RowKit
set_option linter.unusedVariables false
set_option maxRecDepth 100000

/-- A slice of runes, turned into a string. -/
theorem conv_mid (w : World) (g o cap : Nat) (rs : List Nat) (ok : ∀ r ∈ rs, okRune r) (hc : ∀ k, (h : k < rs.length) → w.cell? ⟨g, o + k, none⟩ = some (.int .i32 (rs[k] : Int))) :
    (convert 72 9 (.slice (some ⟨g, o, none⟩) rs.length cap)).run Tryz.prog w = .ok (.string (strOf (encAll rs))) w := by
  have := run_convert_runes (P := Tryz.prog) w 72 9 21 ⟨g, o, none⟩ rs.length cap (rs.map fun r : Nat => (r : Int)) (by simp) Tryz.underlying72 Tryz.underlying21 Tryz.underlying9 (fun j hj => by
    rw [List.length_map] at hj
    have ha : (⟨g, o, none⟩ : Addr).add j = ⟨g, o + j, none⟩ := by
      unfold Addr.add
      by_cases e : j = 0
      · rw [if_pos e, e]; rfl
      · rw [if_neg e]
    rw [ha, hc j hj]
    simp [List.getD, hj])
  rw [this, List.take_of_length_le (by simp), runes_str rs ok]
theorem conv_none (w : World) (l c : Nat) : (convert 72 9 (.slice none l c)).run Tryz.prog w = .ok (.string (strOf (encAll []))) w := by
  rw [run_convert_runes_nil w _ _ 21 l c Tryz.underlying72 Tryz.underlying21 Tryz.underlying9]
  rfl

/-- The runes of a piece. -/
def cutR (rs : List Nat) (fr til : Int) : List Nat := (rs.take til.toNat).drop fr.toNat
def cutOf (l : List UInt8) (fr til : Int) : ByteArray := strOf (encAll (cutR (rsOf l) fr til))
theorem cutOf_nil (l : List UInt8) {fr til : Int} (h : (min til ((rsOf l).length : Int)) ≤ max fr 0) : cutOf l fr til = ⟨#[]⟩ := by
  unfold cutOf cutR
  rw [List.drop_eq_nil_of_le (by rw [List.length_take]; omega)]; rfl

end Go.Proofs.YtijkekkjiboomaaGreatDoor
