/- Package maps: Set, where it lays a set. -/
import Derived.Test.YtodpdcflbnomgaaGreatPart11
namespace Go.Proofs.YtodpdcflbnomgaaGreat
open Go.RowKit Go.Maps
set_option linter.unusedVariables false
set_option linter.unusedSimpArgs false
set_option maxRecDepth 100000

theorem wpO_of_skip {P : Program} {o : Oper} {a : Act} {w w' : World} {K : Act → World → Prop} {Q : Exit → Act → World → Prop} (h : (execOp a.eval o).run P w = .ok .skip w') (hk : K (a.put o.dst undef) w') : o.wp P a w K Q := by
  unfold Oper.wp
  rw [h]
  exact hk
theorem mem_amap {α β : Type} {f : α → β} {l : List (Key × α)} {k : Key} {x : α} (h : (k, x) ∈ l) : (k, f x) ∈ amap f l := List.mem_map.2 ⟨(k, x), h, rfl⟩
theorem upO_length : ∀ (m i : Nat) (l : List O), i ≤ m → (upO l i).length = l.length := by
  intro m
  induction m with
  | zero => intro i l h; rw [show i = 0 by omega, upO_zero]
  | succ m ih =>
    intro i l h
    by_cases h0 : i = 0
    · rw [h0, upO_zero]
    · cases hc : lessM (l.getD ((i - 1) / 2) zeroO) (l.getD i zeroO) with
      | false => rw [upO_stay h0 rfl hc]
      | true => rw [upO_go h0 rfl hc, ih _ _ (by omega)]; simp
theorem withL_length (r : List O) (o : O) : (withL r o).length = r.length + 1 := by rw [withL_eq, upO_length _ _ _ (Nat.le_refl _)]; simp
/-- The value in an operation's box. -/
theorem OpAt.valAt {W : World} {B : Nat} {o : O} (h : OpAt B o W) : W.rangeAt B 9 [.int .i64 o.vk, .int .i64 o.vn, .float .f64 o.vf, .string o.vs] := by
  intro j v hv
  match j, hv with
  | 0, hv => cases hv; exact h.q9
  | 1, hv => cases hv; exact h.q10
  | 2, hv => cases hv; exact h.q11
  | 3, hv => cases hv; exact h.q12
theorem OpAt.cleaned {W : World} {B : Nat} {o : O} (h : OpAt B o W) : OpAt B { o with vf := refBits o.vf } (W.setCells B 9 [.int .i64 o.vk, .int .i64 o.vn, .float .f64 (refBits o.vf), .string o.vs]) := by
  unfold OpAt
  rw [cells_storedS h]
  kernel_rfl
/-- The one that may come up, if it is none of the late ones. -/
theorem wpAnyG_mid {P : Program} {md : Region.Mode} {ops : Array Oper} {Q : Exit → Act → World → Prop} {S : World → Prop} {late : Nat → Bool} {i : Nat} {o : Oper} {fuel : Nat} {listed : Array Bool} {a : Act} {w : World} (ho : ops[i]? = some o) (hr : Region.ready md ops listed = [i]) (hw : Region.wanted o (yielded ops a.tmps) = true)
    (h : ∀ K : Act → World → Prop, Shut (∀ a' w', (S w' ∧ wpAnyG P md ops Q S late fuel (listed.setIfInBounds i true) a' w') → K a' w') → o.wp P a w K Q) : wpAnyG P md ops Q S late (fuel + 1) listed a w := by
  refine ⟨fun h0 => absurd (hr ▸ h0) (by simp), fun j hj => ?_⟩
  rw [hr] at hj
  simp only [List.mem_singleton] at hj
  subst hj
  refine wpOp_step ho fun K hK => ?_
  rw [if_pos hw]
  exact Oper.wp_mono (fun a w h => hK a w ⟨fun _ => h.1, h.2⟩) (h _ fun _ _ h => h)
/-- An operation whose value is clean. -/
def cleanO (o : O) : O := { o with vf := refBits o.vf }
/-- What Set leaves. -/
def laidS (s : MS) (o : O) : MS := ⟨aput (kI o.c o.k) () s.told, aput (kI o.pc o.pk) (aput o.ky.data.toList (withL ((aget o.ky.data.toList ((aget (kI o.pc o.pk) s.keys).getD [])).getD []) (cleanO o)) ((aget (kI o.pc o.pk) s.keys).getD [])) s.keys, s.hid⟩
def mapS (s : MS) (o : O) : MS := { s with keys := aput (kI o.c o.k) [] s.keys }
def setS (s : MS) (o : O) : MS := if okS s o = true then (if isMapB o = true then mapS (laidS s o) o else laidS s o) else s
/-- Not more than is counted. -/
structure SmallS (s : MS) : Prop where
  told : s.told.length ≤ 100000
  keys : s.keys.length ≤ 100000
  ranks : ∀ p ∈ s.keys, p.2.length ≤ 100000
  sets : ∀ p ∈ s.keys, ∀ q ∈ p.2, q.2.length ≤ 100000
section
variable {w : World} {g mt mk : Nat} {hv : Value} {os : List (Key × Inn)} {s : MS}
set_option maxHeartbeats 16000000 in
theorem set_yes (h : MapsC w g mt mk hv os s) (hsm : SmallS s) (o : O) (hf : o.fits) (hkys : o.ky.size ≤ 281474976710656) (hok : okS s o = true) :
    Calls Tryz.prog 15 #[.pointer (some ⟨g, 0, none⟩), o.val] w fun e w' => e = .returned (.bool true) ∧ ∃ (os' : List (Key × Inn)) (S : Nat → Prop), MapsC w' g mt mk hv os' (setS s o) ∧ Touch S w w' ∧ (∀ k, S k → footM g mt mk hv os k ∧ hv.ownBlock ≠ some k) ∧ ∀ k, k < w.heap.size → footM g mt mk hv os' k → footM g mt mk hv os k := by
  obtain ⟨E, hE⟩ : ∃ E, Hid (E = w.alloc (opO o)) := ⟨_, Eq.refl _⟩
  have HTE : Hid (Touch (fun _ => False) w E) := by rw [hE.out]; exact (Touch.refl _ _).alloc _
  have HB : Hid (OpAt w.heap.size o E) := by rw [hE.out]; exact heap_alloc_new _ _
  obtain ⟨B, hBq⟩ : ∃ B, Hid (B = w.heap.size) := ⟨_, Eq.refl _⟩
  rw [← hBq.out] at HB
  have q0 := HB.out.q0
  have q1 := HB.out.q1
  have q2 := HB.out.q2
  have q14 := HB.out.q14
  have q15 := HB.out.q15
  -- what okS says
  have hok2 := hok
  unfold okS at hok2
  rw [Bool.and_eq_true, Bool.and_eq_true, Bool.and_eq_true, decide_eq_true_iff] at hok2
  obtain ⟨⟨⟨hkind, hrt⟩, his⟩, hnt⟩ := hok2
  have HR : Hid (∀ W, Calls Tryz.prog 32 #[idV o.c o.k] W fun e w' => e = .returned (.bool true) ∧ Touch (fun _ => False) W w') := fun W => (right_any o.c o.k W).mono fun e w' q => ⟨by rw [q.1, hrt], by rw [q.2]; exact (Touch.refl _ _).alloc _⟩
  have HI : Hid (∀ W, Touch (fun _ => False) w W → Calls Tryz.prog 18 #[.pointer (some ⟨g, 0, none⟩), idV o.pc o.pk] W fun e w' => e = .returned (.bool true) ∧ Touch (fun _ => False) W w') := fun W t => by
    have := isC_any (h.quiet t) hf.upc hf.upk
    rw [his] at this; exact this
  have HL : Hid (∀ W, Touch (fun _ => False) w W → W.cell? ⟨g, 0, none⟩ = some (.map (some mt)) ∧ (Instr.lookup 62 (.map (some mt)) (idV o.c o.k) true).run Tryz.prog W = .ok (.tuple #[.agg #[], .bool false]) W) := fun W t => by
    have hm := h.quiet t
    refine ⟨hm.c0, ?_⟩
    have := told_look hm.told hf.uc hf.uk
    rw [aget_amap] at this
    rw [this]
    cases e : aget (kI o.c o.k) s.told with
    | none => rfl
    | some x => rw [e] at hnt; cases hnt
  have HKe : Hid (∀ W, Touch (fun _ => False) E W → OpAt B o W ∧ W.cell? ⟨B, 0, none⟩ = some (.int .u64 o.c) ∧ W.cell? ⟨B, 1, none⟩ = some (.int .u64 o.k) ∧ W.cell? ⟨B, 14, none⟩ = some (.int .u64 o.pc) ∧ W.cell? ⟨B, 15, none⟩ = some (.int .u64 o.pk)) := fun W t => by
    have := HB.out.keep t
    exact ⟨this, this.q0, this.q1, this.q14, this.q15⟩
  have HCl : Hid (∀ W, Calls Tryz.prog 33 #[.agg #[.int .i64 o.vk, .int .i64 o.vn, .float .f64 o.vf, .string o.vs]] W fun e w' => e = .returned (.agg #[.int .i64 o.vk, .int .i64 o.vn, .float .f64 (refBits o.vf), .string o.vs]) ∧ Touch (fun _ => False) W w') := fun W => v_clean o.v W
  have H0 : Hid (MapsC w g mt mk hv os s ∧ SmallS s ∧ o.fits ∧ o.ky.size ≤ maxLen ∧ okS s o = true ∧ isS s o.pc o.pk = true) := ⟨h, hsm, hf, by unfold maxLen; omega, hok, his⟩
  rw [hkind] at q2
  clear h hsm hf hkys hok hnt his hrt hkind
  go_enter Tryz.func15, Tryz.ntmps15
  go_upto_region 1 with fail
  rw [← hE.out, ← hBq.out]
  clear hE
  go_wp2_with fail
  refine (HR.out _).mono ?_
  rintro e W1 ⟨rfl, t1⟩
  have HT1 : Hid (Touch (fun _ => False) w W1 ∧ Touch (fun _ => False) E W1) := ⟨HTE.out.trans t1, t1⟩
  obtain ⟨-, k0, k1, k14, k15⟩ := HKe.out _ t1
  clear t1 q0 q1 q2 q14 q15 k0 k1 HR
  go_wp2_with fail
  refine (HI.out _ HT1.out.1).mono ?_
  rintro e W2 ⟨rfl, t2⟩
  have HT2 : Hid (Touch (fun _ => False) w W2 ∧ Touch (fun _ => False) E W2) := ⟨HT1.out.1.trans t2, HT1.out.2.trans t2⟩
  clear t2 k14 k15 HT1 HI HTE HB
  have td : Touch (fun _ => False) W2 (W2.alloc (.cells #[] 74)).drew := ((Touch.refl _ _).alloc _).drew
  obtain ⟨-, k0, k1, -, -⟩ := HKe.out _ (HT2.out.2.trans td)
  obtain ⟨g0, L⟩ := HL.out _ (HT2.out.1.trans td)
  have td2 : Touch (fun _ => False) W2 W2.drew := (Touch.refl _ _).drew
  obtain ⟨-, k0', k1', -, -⟩ := HKe.out _ (HT2.out.2.trans td2)
  obtain ⟨g0', L'⟩ := HL.out _ (HT2.out.1.trans td2)
  have HWa : Hid (Touch (fun _ => False) W2 (W2.alloc (.cells #[] 74)).drew ∧ Touch (fun _ => False) W2 (W2.drew.alloc (.cells #[] 74))) := ⟨td, (Touch.refl _ _).drew.alloc _⟩
  clear td td2 HL
  go_upto_region 3 with fail
  go_region
  all_goals (
    first
      | (obtain ⟨W3, hW3⟩ : ∃ W3, Hid (W3 = (W2.alloc (.cells #[] 74)).drew) := ⟨_, Eq.refl _⟩
         have HT3 : Hid (Touch (fun _ => False) w W3 ∧ Touch (fun _ => False) E W3) := by rw [hW3.out]; exact ⟨HT2.out.1.trans HWa.out.1, HT2.out.2.trans HWa.out.1⟩
         rw [← hW3.out])
      | (obtain ⟨W3, hW3⟩ : ∃ W3, Hid (W3 = W2.drew.alloc (.cells #[] 74)) := ⟨_, Eq.refl _⟩
         have HT3 : Hid (Touch (fun _ => False) w W3 ∧ Touch (fun _ => False) E W3) := by rw [hW3.out]; exact ⟨HT2.out.1.trans HWa.out.2, HT2.out.2.trans HWa.out.2⟩
         rw [← hW3.out])
    clear hW3 HT2 HWa k0 k1 g0 L k0' k1' g0' L'
    have hB3 := (HKe.out _ HT3.out.2).1
    go_upto_region 6 with fail
    refine wp_region_lit ?_
    iterate 1 (refine wpList_plain rfl fun K hK => ?_; go_simp; refine hK _ _ ?_; clear hK K)
    refine wpList_load_mid rfl 37 (.tmp 35) rfl B 9 rfl [.int .i64 o.vk, .int .i64 o.vn, .float .f64 o.vf, .string o.vs] _ (OpAt.valAt hB3) Tryz.underlying37 rfl (by kernel_rfl) ?_
    simp only [Act.put, List.setIfInBounds_toArray, List.set_cons_succ, List.set_cons_zero]
    refine wpList_plain rfl fun K hK => ?_
    go_simp
    refine (HCl.out _).mono ?_
    rintro e W4 ⟨rfl, t4⟩
    refine hK _ _ ?_
    clear hK K
    have HT4 : Hid (Touch (fun _ => False) w W4 ∧ Touch (fun _ => False) E W4) := ⟨HT3.out.1.trans t4, HT3.out.2.trans t4⟩
    clear t4 HT3 hB3
    have hB4 := (HKe.out _ HT4.out.2).1
    iterate 1 (refine wpList_plain rfl fun K hK => ?_; go_simp; refine hK _ _ ?_; clear hK K)
    refine wpList_store_mid rfl 37 (.tmp 38) (.tmp 37) rfl B 9 #[.int .i64 o.vk, .int .i64 o.vn, .float .f64 (refBits o.vf), .string o.vs] rfl rfl (OpAt.there hB4 9 4 (by decide)) (by kernel_rfl) (by kernel_rfl) ?_
    simp only [Act.put]
    obtain ⟨W5, hW5⟩ : ∃ W5, Hid (W5 = W4.setCells B 9 [.int .i64 o.vk, .int .i64 o.vn, .float .f64 (refBits o.vf), .string o.vs]) := ⟨_, Eq.refl _⟩
    have HT5 : Hid (Touch (fun _ => False) w W5) := by rw [hW5.out]; exact HT4.out.1.stores (by rw [hBq.out]; exact Nat.le_refl _) 9 _
    have HB5 : Hid (OpAt B (cleanO o) W5) := by rw [hW5.out]; exact OpAt.cleaned hB4
    rw [← hW5.out]
    clear hW5 hB4 HT4 HKe HCl
    have hm5 := H0.out.1.quiet HT5.out
    have hm5d := hm5.quiet (Touch.refl _ W5).drew
    have hb5d : OpAt B (cleanO o) W5.drew := HB5.out
    have g0 := hm5d.c0
    have k0 := hb5d.q0
    have k1 := hb5d.q1
    obtain ⟨W6, hrun6, ho6, ht6⟩ := told_put hm5d.told (by have := H0.out.2.1.told; unfold maxLen; omega) H0.out.2.2.1.uc H0.out.2.2.1.uk (.agg #[])
    have HM6 : Hid (MapsC W6 g mt mk hv os { s with told := aput (kI o.c o.k) () s.told }) := hm5d.toldPut ho6 ht6
    have HT6 : Hid (Touch (fun k => k = mt) w W6) := ((HT5.out.trans (Touch.refl _ W5).drew).mono fun _ _ q => q.elim).trans (turned_touch ht6)
    have HB6 : Hid (OpAt B (cleanO o) W6) := by
      have t := turned_touch ht6
      refine (t.block B (lt_of_heap hb5d) ?_).trans hb5d
      intro e
      have := H0.out.1.told.lt
      rw [hBq.out] at e
      omega
    have k0e : (cleanO o).c = o.c := rfl
    have k1e : (cleanO o).k = o.k := rfl
    rw [k0e] at k0
    rw [k1e] at k1
    clear hm5 hm5d hb5d ho6 ht6 HT5 HB5 k0e k1e
    go_upto_region 7 with fail
    go_region
    clear hrun6 g0 k0 k1
    have td6 : Touch (fun _ => False) W6 W6.drew := (Touch.refl _ _).drew
    have hm6d := HM6.out.quiet td6
    have g1 := hm6d.c1
    have k14 : W6.drew.cell? ⟨B, 14, none⟩ = some (.int .u64 o.pc) := (HB6.out.keep td6).q14
    have k15 : W6.drew.cell? ⟨B, 15, none⟩ = some (.int .u64 o.pk) := (HB6.out.keep td6).q15
    obtain ⟨i, hi⟩ : ∃ i, aget (kI o.pc o.pk) os = some i := by
      have := H0.out.2.2.2.2.2
      rw [H0.out.1.isS, aget_amap] at this
      cases e : aget (kI o.pc o.pk) os with
      | none => rw [e] at this; cases this
      | some i => exact ⟨i, rfl⟩
    have HIi : Hid (aget (kI o.pc o.pk) os = some i) := hi
    have L8 := keys_look hm6d.keys H0.out.2.2.1.upc H0.out.2.2.1.upk
    rw [aget_amap, hi] at L8
    simp only [Option.map_some, Option.getD_some, innV] at L8
    obtain ⟨ib, hib⟩ : ∃ b, Hid (b = i.b) := ⟨_, Eq.refl _⟩
    rw [← hib.out] at L8
    clear hm6d hi
    go_upto_region 8 with fail
    go_region
    clear L8 g1 k14 k15
    obtain ⟨W7, hW7⟩ : ∃ W7, Hid (W7 = W6.drew) := ⟨_, Eq.refl _⟩
    have HM7 : Hid (MapsC W7 g mt mk hv os { s with told := aput (kI o.c o.k) () s.told }) := by rw [hW7.out]; exact HM6.out.quiet td6
    have HT7 : Hid (Touch (fun k => k = mt) w W7) := by rw [hW7.out]; exact HT6.out.trans (td6.mono fun _ _ q => q.elim)
    have HB7 : Hid (OpAt B (cleanO o) W7) := by rw [hW7.out]; exact HB6.out.keep td6
    rw [← hW7.out]
    clear hW7 HM6 HT6 HB6 td6
    obtain ⟨oc, hoc⟩ : ∃ oc, Hid (oc = cleanO o) := ⟨_, Eq.refl _⟩
    rw [← hoc.out] at HB7
    obtain ⟨r, hr⟩ : ∃ r, Hid (r = (aget oc.ky.data.toList i.es).getD ⟨.slice none 0 0, []⟩) := ⟨_, Eq.refl _⟩
    obtain ⟨rv, hrv⟩ : ∃ rv, Hid (rv = r.v) := ⟨_, Eq.refl _⟩
    have HS9 : Hid ((W7.drew.cell? ⟨B, 13, none⟩ = some (.string oc.ky) ∧ W7.drew.rangeAt B 0 oc.vals.toList ∧ (Instr.lookup 63 (.map (some ib)) (.string oc.ky) false).run Tryz.prog W7.drew = .ok rv W7.drew) ∧
        (Calls Tryz.prog 34 #[rv, .agg oc.vals] W7.drew fun e w8 => ∃ v8, e = .returned v8 ∧ (RowOn w8 v8 (withL r.l oc) ∧ Touch (fun k => rv.ownBlock = some k) W7.drew w8 ∧ (v8.ownBlock = rv.ownBlock ∨ ∃ k, v8.ownBlock = some k ∧ W7.drew.heap.size ≤ k))) ∧
        ∀ v8 w8, (RowOn w8 v8 (withL r.l oc) ∧ Touch (fun k => rv.ownBlock = some k) W7.drew w8 ∧ (v8.ownBlock = rv.ownBlock ∨ ∃ k, v8.ownBlock = some k ∧ W7.drew.heap.size ≤ k)) →
          (w8.cell? ⟨B, 13, none⟩ = some (.string oc.ky) ∧ w8.rangeAt B 0 oc.vals.toList ∧ (Instr.lookup 63 (.map (some ib)) (.string oc.ky) false).run Tryz.prog w8 = .ok rv w8) ∧
          ∃ w9, (Instr.mapUpdate 63 (.map (some ib)) (.string oc.ky) v8).run Tryz.prog w8 = .ok () w9 ∧
            Hid (MapsC w9 g mt mk hv (aput (kI o.pc o.pk) ⟨i.b, aput oc.ky.data.toList ⟨v8, withL r.l oc⟩ i.es⟩ os) (laidS s o) ∧ Touch (fun k => k = mt ∨ k = i.b ∨ r.v.ownBlock = some k) w w9 ∧ OpAt B oc w9 ∧ (v8.ownBlock = r.v.ownBlock ∨ ∃ k, v8.ownBlock = some k ∧ w.heap.size ≤ k))) := by
      have td7 : Touch (fun _ => False) W7 W7.drew := (Touch.refl _ _).drew
      have hm7 := HM7.out.quiet td7
      have hb7 := HB7.out.keep td7
      have hky : oc.ky.size ≤ maxLen := by rw [hoc.out]; exact H0.out.2.2.2.1
      have hip := aget_mem HIi.out
      have hI := hm7.inn _ hip
      have hrow : RowOn W7.drew r.v r.l := by
        rw [hr.out]
        cases e : aget oc.ky.data.toList i.es with
        | none => exact World.ownsRow_nil _ _ _ _
        | some r0 => exact hI.rows _ (aget_mem e)
      have hlen : r.l.length ≤ 100000 := by
        rw [hr.out]
        cases e : aget oc.ky.data.toList i.es with
        | none => exact Nat.zero_le _
        | some r0 =>
          have hsm := H0.out.2.1.sets (kI o.pc o.pk, innL i) (by rw [H0.out.1.eq]; exact mem_amap hip) (oc.ky.data.toList, r0.l) (mem_amap (aget_mem e))
          exact hsm
      have hesl : i.es.length ≤ 100000 := by
        have := H0.out.2.1.ranks (kI o.pc o.pk, innL i) (by rw [H0.out.1.eq]; exact mem_amap hip)
        rw [length_amap] at this; exact this
      have hwl : (withL r.l oc).length = r.l.length + 1 := withL_length _ _
      have hlook : ∀ V, RanksAt V i.b i.es.length (amap Rk.v i.es) → (Instr.lookup 63 (.map (some ib)) (.string oc.ky) false).run Tryz.prog V = .ok rv V := fun V hV => by
        have := ranks_look hV oc.ky hky
        rw [hib.out, this, hrv.out, hr.out, aget_amap]
        cases aget oc.ky.data.toList i.es <;> rfl
      refine ⟨⟨hb7.q13, rangeAt_of hb7, hlook _ hI.owns⟩, ?_, ?_⟩
      · rw [hrv.out]
        refine (with_any r.l oc r.v W7.drew hrow (by omega)).mono ?_
        rintro e w8 ⟨v8, q1, q2, q3, q4⟩
        exact ⟨v8, q1, q2, q3, q4⟩
      · rintro v8 w8 ⟨a1, a2, a3⟩
        have hrb : ∀ k, rv.ownBlock = some k → k ≠ B ∧ k ≠ i.b := fun k hk => by
          rw [hrv.out] at hk
          have h1 := hm7.row_ne hrow hk
          refine ⟨?_, h1.2.2.2.2 _ hip⟩
          rintro rfl
          obtain ⟨c, hc⟩ := row_ltM hrow hk
          have h3 : (Obj.cells c 41 (0, 0)) = opO oc := by
            have := hb7
            unfold OpAt at this
            rw [hc] at this
            exact Option.some.inj this
          -- the box is no row of the Maps: it is younger
          have := hBq.out
          have h4 : k < w.heap.size := by
            cases e : aget oc.ky.data.toList i.es with
            | none => rw [hr.out, e] at hk; simp [Value.ownBlock] at hk
            | some r0 =>
              rw [hr.out, e] at hk
              obtain ⟨c2, hc2⟩ := row_ltM ((H0.out.1.inn _ hip).rows _ (aget_mem e)) hk
              exact lt_of_heap hc2
          omega
        have hb8 : OpAt B oc w8 := (a2.block B (lt_of_heap hb7) (fun e => (hrb _ e).1 rfl)).trans hb7
        have hi8 : RanksAt w8 i.b i.es.length (amap Rk.v i.es) := owns_touchM hI.owns a2 (fun e => (hrb _ e).2 rfl)
        obtain ⟨w9, hrun9, ho9, ht9⟩ := ranks_put hi8 (by unfold maxLen; omega) oc.ky hky v8
        refine ⟨⟨hb8.q13, rangeAt_of hb8, hlook _ hi8⟩, w9, by rw [hib.out]; exact hrun9, ?_⟩
        rw [hrv.out] at a2 a3
        have hP := hm7.rankPut HIi.out hr.out a1 (by omega) a2 a3 ho9 ht9
        refine ⟨?_, ?_, ?_, ?_⟩
        · have e1 : (aget (kI o.pc o.pk) s.keys).getD [] = innL i := by rw [H0.out.1.getK, HIi.out]; rfl
          have e2 : (aget o.ky.data.toList (innL i)).getD [] = r.l := by
            rw [hr.out, hoc.out]
            show (aget o.ky.data.toList (amap Rk.l i.es)).getD [] = _
            rw [aget_amap]
            show _ = ((aget o.ky.data.toList i.es).getD _).l
            cases aget o.ky.data.toList i.es <;> rfl
          have e3 : laidS s o = { s with told := aput (kI o.c o.k) () s.told, keys := aput (kI o.pc o.pk) (aput oc.ky.data.toList (withL r.l oc) (innL i)) s.keys } := by
            unfold laidS
            rw [e1, e2, hoc.out]
            rfl
          rw [e3]
          exact hP.1
        · exact ((HT7.out.trans (td7.mono fun _ _ q => q.elim)).mono fun _ _ e => .inl e).trans (hP.2.mono fun _ _ e => .inr e)
        · have t := turned_touch ht9
          refine (t.block B (lt_of_heap hb8) ?_).trans hb8
          intro e
          have h1 := (H0.out.1.inn _ hip).owns.lt
          have h2 := hBq.out
          simp only at h1
          omega
        · rcases a3 with e | ⟨k, e, hk⟩
          · exact .inl e
          · exact .inr ⟨k, e, Nat.le_trans (HT7.out.trans (td7.mono fun _ _ q => q.elim)).size hk⟩
    have HT7s := HT7
    have Hr2 : Hid (r = (aget oc.ky.data.toList i.es).getD ⟨.slice none 0 0, []⟩) := hr
    clear HM7 HT7 HB7 hr hrv
    go_upto_region 9 with fail
    refine region_G (S := fun V => V.cell? ⟨B, 13, none⟩ = some (.string oc.ky) ∧ V.rangeAt B 0 oc.vals.toList ∧ (Instr.lookup 63 (.map (some ib)) (.string oc.ky) false).run Tryz.prog V = .ok rv V) (late := fun k => k == 9) (by kernel_rfl) ?_
    obtain ⟨V, hV⟩ : ∃ V, Hid (V = W7.drew) := ⟨_, Eq.refl _⟩
    rw [← hV.out] at HS9 ⊢
    clear hV
    have hHeld := HS9.out.1
    refine wpAnyG_take (i := 0) (oi := { dst := some 53, op := Go.Op.move (Go.Operand.tmp 7), type := 63, pos := "maps.go:36", after := #[], guard := none }) (v := .map (some ib)) rfl (by kernel_rfl) (by kernel_rfl) (by kernel_rfl) (by kernel_rfl) (by kernel_rfl) (by kernel_rfl) (fun _ _ _ h => h) (Or.inl ⟨by kernel_rfl, ?_⟩) hHeld ?_
    · intro V1 hV1; obtain ⟨c13, -, L6⟩ := hV1; go_simp
    simp only [Act.put, List.setIfInBounds_toArray, List.set_cons_succ, List.set_cons_zero]
    refine wpAnyG_take (i := 1) (oi := { dst := some 54, op := Go.Op.fieldAddr 41 (Go.Operand.tmp 3) 7, type := 0, pos := "maps.go:36", after := #[], guard := none }) (v := .pointer (some ⟨B, 13, none⟩)) rfl (by kernel_rfl) (by kernel_rfl) (by kernel_rfl) (by kernel_rfl) (by kernel_rfl) (by kernel_rfl) (fun _ _ _ h => h) (Or.inl ⟨by kernel_rfl, ?_⟩) hHeld ?_
    · intro V1 hV1; obtain ⟨c13, -, L6⟩ := hV1; go_simp
    simp only [Act.put, List.setIfInBounds_toArray, List.set_cons_succ, List.set_cons_zero]
    refine wpAnyG_take (i := 2) (oi := { dst := some 55, op := Go.Op.load 9 (Go.Operand.tmp 54), type := 9, pos := "maps.go:36", after := #[{ on := 1, ground := Go.Ground.data }], guard := none }) (v := .string oc.ky) rfl (by kernel_rfl) (by kernel_rfl) (by kernel_rfl) (by kernel_rfl) (by kernel_rfl) (by kernel_rfl) (fun _ _ _ h => h) (Or.inl ⟨by kernel_rfl, ?_⟩) hHeld ?_
    · intro V1 hV1; obtain ⟨c13, -, L6⟩ := hV1; go_simp
    simp only [Act.put, List.setIfInBounds_toArray, List.set_cons_succ, List.set_cons_zero]
    refine wpAnyG_take (i := 3) (oi := { dst := some 56, op := Go.Op.move (Go.Operand.tmp 7), type := 63, pos := "maps.go:36", after := #[], guard := none }) (v := .map (some ib)) rfl (by kernel_rfl) (by kernel_rfl) (by kernel_rfl) (by kernel_rfl) (by kernel_rfl) (by kernel_rfl) (fun _ _ _ h => h) (Or.inl ⟨by kernel_rfl, ?_⟩) hHeld ?_
    · intro V1 hV1; obtain ⟨c13, -, L6⟩ := hV1; go_simp
    simp only [Act.put, List.setIfInBounds_toArray, List.set_cons_succ, List.set_cons_zero]
    refine wpAnyG_take (i := 4) (oi := { dst := some 57, op := Go.Op.fieldAddr 41 (Go.Operand.tmp 3) 7, type := 0, pos := "maps.go:36", after := #[], guard := none }) (v := .pointer (some ⟨B, 13, none⟩)) rfl (by kernel_rfl) (by kernel_rfl) (by kernel_rfl) (by kernel_rfl) (by kernel_rfl) (by kernel_rfl) (fun _ _ _ h => h) (Or.inl ⟨by kernel_rfl, ?_⟩) hHeld ?_
    · intro V1 hV1; obtain ⟨c13, -, L6⟩ := hV1; go_simp
    simp only [Act.put, List.setIfInBounds_toArray, List.set_cons_succ, List.set_cons_zero]
    refine wpAnyG_take (i := 5) (oi := { dst := some 58, op := Go.Op.load 9 (Go.Operand.tmp 57), type := 9, pos := "maps.go:36", after := #[{ on := 4, ground := Go.Ground.data }], guard := none }) (v := .string oc.ky) rfl (by kernel_rfl) (by kernel_rfl) (by kernel_rfl) (by kernel_rfl) (by kernel_rfl) (by kernel_rfl) (fun _ _ _ h => h) (Or.inl ⟨by kernel_rfl, ?_⟩) hHeld ?_
    · intro V1 hV1; obtain ⟨c13, -, L6⟩ := hV1; go_simp
    simp only [Act.put, List.setIfInBounds_toArray, List.set_cons_succ, List.set_cons_zero]
    refine wpAnyG_take (i := 6) (oi := { dst := some 59, op := Go.Op.lookup 63 (Go.Operand.tmp 56) (Go.Operand.tmp 58) false, type := 68, pos := "maps.go:36", after := #[{ on := 3, ground := Go.Ground.data }, { on := 5, ground := Go.Ground.data }], guard := none }) (v := rv) rfl (by kernel_rfl) (by kernel_rfl) (by kernel_rfl) (by kernel_rfl) (by kernel_rfl) (by kernel_rfl) (fun _ _ _ h => h) (Or.inl ⟨by kernel_rfl, ?_⟩) hHeld ?_
    · intro V1 hV1; obtain ⟨c13, -, L6⟩ := hV1; go_simp
    simp only [Act.put, List.setIfInBounds_toArray, List.set_cons_succ, List.set_cons_zero]
    refine wpAnyG_take (i := 7) (oi := { dst := some 60, op := Go.Op.load 41 (Go.Operand.tmp 3), type := 41, pos := "maps.go:36", after := #[], guard := none }) (v := .agg oc.vals) rfl (by kernel_rfl) (by kernel_rfl) (by kernel_rfl) (by kernel_rfl) (by kernel_rfl) (by kernel_rfl) (fun _ _ _ h => h) (yieldsIf_load_mid (by kernel_rfl) 41 (.tmp 3) rfl B (0) rfl oc.vals.toList _ (fun V1 hV1 => hV1.2.1) Tryz.underlying41 rfl (by kernel_rfl)) hHeld ?_
    simp only [Act.put, List.setIfInBounds_toArray, List.set_cons_succ, List.set_cons_zero]
    clear hHeld
    refine wpAnyG_mid (i := 8) (o := { dst := some 61, op := Go.Op.call { callee := Go.Callee.value (Go.Operand.func 34), args := #[Go.Operand.tmp 59, Go.Operand.tmp 60], argTypes := #[68, 41] }, type := 68, pos := "maps.go:36", after := #[{ on := 6, ground := Go.Ground.data }, { on := 7, ground := Go.Ground.data }], guard := none }) rfl (by kernel_rfl) (by kernel_rfl) (fun K hK => ?_)
    go_simp
    refine (HS9.out.2.1).mono ?_
    rintro e w8 ⟨v8, rfl, hw8⟩
    obtain ⟨hS8, w9, hrun9, HU9⟩ := HS9.out.2.2 v8 w8 hw8
    clear hw8
    refine hK.out _ _ ⟨hS8, ?_⟩
    clear hK K hS8
    refine wpAnyG_one (i := 9) (o := { dst := none, op := Go.Op.mapUpdate 63 (Go.Operand.tmp 53) (Go.Operand.tmp 55) (Go.Operand.tmp 61), type := 0, pos := "maps.go:36", after := #[{ on := 0, ground := Go.Ground.data }, { on := 2, ground := Go.Ground.data }, { on := 8, ground := Go.Ground.data }, { on := 8, ground := Go.Ground.chain }, { on := 0, ground := Go.Ground.phase }, { on := 1, ground := Go.Ground.phase }, { on := 2, ground := Go.Ground.phase }, { on := 3, ground := Go.Ground.phase }, { on := 4, ground := Go.Ground.phase }, { on := 5, ground := Go.Ground.phase }, { on := 6, ground := Go.Ground.phase }, { on := 7, ground := Go.Ground.phase }, { on := 8, ground := Go.Ground.phase }], guard := none }) rfl (by kernel_rfl) (by kernel_rfl) (by kernel_rfl) ?_
    refine wpO_of_skip (w' := w9) ?_ ?_
    · simp only [execOp, go_sem]
      simp [go_sem, hrun9, Result.andThen]
    simp only [Act.put]
    refine wpAnyG_done (by kernel_rfl) ?_
    refine NoPanic.normal ?_
    clear HS9 hrun9
    clear HT7s
    go_upto_region 10 with fail
    refine wp_region_lit ?_
    refine wpList_load_mid rfl 41 (.tmp 3) rfl B 0 rfl oc.vals.toList _ (rangeAt_of HU9.out.2.2.1) Tryz.underlying41 rfl (by kernel_rfl) ?_
    simp only [Act.put, List.setIfInBounds_toArray, List.set_cons_succ, List.set_cons_zero]
    refine wpList_plain rfl fun K hK => ?_
    go_simp
    refine (isMap_any oc w9).mono ?_
    rintro e W10 ⟨rfl, t10⟩
    refine hK _ _ ?_
    clear hK K
    have hmb : isMapB oc = isMapB o := by rw [hoc.out]; rfl
    rw [hmb]
    clear hmb
    obtain ⟨os1, hos1⟩ : ∃ x, Hid (x = aput (kI o.pc o.pk) (⟨i.b, aput oc.ky.data.toList ⟨v8, withL r.l oc⟩ i.es⟩ : Inn) os) := ⟨_, Eq.refl _⟩
    have HF1 : Hid (∀ k, k < w.heap.size → footM g mt mk hv os1 k → footM g mt mk hv os k) := fun k hk hfo => by
      rw [hos1.out] at hfo
      have hip := aget_mem HIi.out
      rcases hfo with e | e | e | e | ⟨p, hp, e⟩
      · exact .inl e
      · exact .inr (.inl e)
      · exact .inr (.inr (.inl e))
      · exact .inr (.inr (.inr (.inl e)))
      · refine .inr (.inr (.inr (.inr ?_)))
        rcases mem_aput.1 hp with rfl | ⟨hp, _⟩
        · rcases e with e | ⟨q, hq, e⟩
          · exact ⟨_, hip, .inl e⟩
          · rcases mem_aput.1 hq with rfl | ⟨hq, _⟩
            · rcases HU9.out.2.2.2 with e2 | ⟨k2, e2, h2⟩
              · rw [e2] at e
                cases e3 : aget oc.ky.data.toList i.es with
                | none => rw [Hr2.out, e3] at e; simp [Value.ownBlock] at e
                | some r0 => rw [Hr2.out, e3] at e; exact ⟨_, hip, .inr ⟨_, aget_mem e3, e⟩⟩
              · rw [e2] at e
                have := Option.some.inj e
                omega
            · exact ⟨_, hip, .inr ⟨q, hq, e⟩⟩
        · exact ⟨p, hp, e⟩
    have HFt : Hid (∀ k, (k = mt ∨ k = i.b ∨ r.v.ownBlock = some k) → footM g mt mk hv os k ∧ hv.ownBlock ≠ some k) := fun k hk => by
      have hip := aget_mem HIi.out
      rcases hk with e | e | e
      · exact ⟨.inr (.inl e), fun e2 => (H0.out.1.hid_ne e2).2.1 e⟩
      · exact ⟨.inr (.inr (.inr (.inr ⟨_, hip, .inl e⟩))), fun e2 => (H0.out.1.hid_ne e2).2.2.2 _ hip e⟩
      · cases e3 : aget oc.ky.data.toList i.es with
        | none => rw [Hr2.out, e3] at e; simp [Value.ownBlock] at e
        | some r0 =>
          rw [Hr2.out, e3] at e
          exact ⟨.inr (.inr (.inr (.inr ⟨_, hip, .inr ⟨_, aget_mem e3, e⟩⟩))), (H0.out.1.rows_ne hip (aget_mem e3) e).2.2.2.1⟩
    have HM10 : Hid (MapsC W10 g mt mk hv os1 (laidS s o) ∧ Touch (fun k => k = mt ∨ k = i.b ∨ r.v.ownBlock = some k) w W10) := by
      rw [hos1.out]
      exact ⟨HU9.out.1.quiet t10, HU9.out.2.1.trans (t10.mono fun _ _ q => q.elim)⟩
    have HB10 : Hid (OpAt B oc W10) := HU9.out.2.2.1.keep t10
    clear t10 HU9
    have HSS : Hid (setS s o = if isMapB o = true then mapS (laidS s o) o else laidS s o) := by
      show setS s o = _
      unfold setS; rw [if_pos H0.out.2.2.2.2.1]
    generalize isMapB o = mb at *
    cases mb with
    | false =>
      go_wp2_with fail
      go_ret
      refine ⟨rfl, os1, (fun k => k = mt ∨ k = i.b ∨ r.v.ownBlock = some k), ?_, HM10.out.2, HFt.out, HF1.out⟩
      rw [HSS.out]
      exact HM10.out.1
    | true =>
      have hmm := @run_makeMap Tryz.prog
      have td10 : Touch (fun _ => False) W10 W10.drew := (Touch.refl _ _).drew
      have ta10 : Touch (fun _ => False) W10 (W10.alloc (.map #[] 0)).drew := ((Touch.refl _ _).alloc _).drew
      have hma := HM10.out.1.quiet ta10
      have hmd := HM10.out.1.quiet td10
      have g1 := hma.c1
      have g1' := hmd.c1
      have b0 : (W10.alloc (.map #[] 0)).drew.cell? ⟨B, 0, none⟩ = some (.int .u64 oc.c) := (HB10.out.keep ta10).q0
      have b1 : (W10.alloc (.map #[] 0)).drew.cell? ⟨B, 1, none⟩ = some (.int .u64 oc.k) := (HB10.out.keep ta10).q1
      have b0' : W10.drew.cell? ⟨B, 0, none⟩ = some (.int .u64 oc.c) := (HB10.out.keep td10).q0
      have b1' : W10.drew.cell? ⟨B, 1, none⟩ = some (.int .u64 oc.k) := (HB10.out.keep td10).q1
      have ec : oc.c = o.c := by rw [hoc.out]; rfl
      have ek : oc.k = o.k := by rw [hoc.out]; rfl
      rw [ec] at b0 b0'
      rw [ek] at b1 b1'
      have hos1l : os1.length ≤ 1000000 := by
        rw [hos1.out]
        have h1 := length_aput_le (kI o.pc o.pk) (⟨i.b, aput oc.ky.data.toList ⟨v8, withL r.l oc⟩ i.es⟩ : Inn) os
        have h2 := H0.out.2.1.keys
        rw [H0.out.1.eq, length_amap] at h2
        omega
      obtain ⟨W11, hrun11, ho11, ht11⟩ := keys_put hma.keys (by unfold maxLen; omega) H0.out.2.2.1.uc H0.out.2.2.1.uk (.map (some W10.heap.size))
      have HM11 : Hid (MapsC W11 g mt mk hv (aput (kI o.c o.k) ⟨W10.heap.size, []⟩ os1) (mapS (laidS s o) o) ∧ Touch (fun k => k = mk) W10 W11) := by
        exact HM10.out.1.newMap (w1 := (W10.alloc (.map #[] 0)).drew) ta10 (Nat.le_refl _) (World.ownsMap_made W10 _ _ _) ho11 ht11
      have HB10s : Hid (w.heap.size ≤ W10.heap.size) := HM10.out.2.size
      clear hma hmd ta10 td10 ec ek ho11 ht11 hos1l
      go_upto_region 11 with fail
      go_region
      all_goals (go_wp2_with fail)
      all_goals go_ret
      all_goals (
        refine ⟨rfl, aput (kI o.c o.k) ⟨W10.heap.size, []⟩ os1, ?_, (fun k => (k = mt ∨ k = i.b ∨ r.v.ownBlock = some k) ∨ k = mk), (HM10.out.2.mono fun _ _ e => .inl e).trans (HM11.out.2.mono fun _ _ e => .inr e), ?_, ?_⟩
        · rw [HSS.out]
          exact HM11.out.1
        · rintro k (e | e)
          · exact HFt.out k e
          · exact ⟨.inr (.inr (.inl e)), fun e2 => (H0.out.1.hid_ne e2).2.2.1 e⟩
        · intro k hk hfo
          refine HF1.out k hk ?_
          rcases hfo with e | e | e | e | ⟨p, hp, e⟩
          · exact .inl e
          · exact .inr (.inl e)
          · exact .inr (.inr (.inl e))
          · exact .inr (.inr (.inr (.inl e)))
          · rcases mem_aput.1 hp with rfl | ⟨hp, _⟩
            · rcases e with e | ⟨q, hq, e⟩
              · have := HB10s.out
                simp only at e
                omega
              · cases hq
            · exact .inr (.inr (.inr (.inr ⟨p, hp, e⟩)))))
end
end Go.Proofs.YtodpdcflbnomgaaGreat
