/- The library's contracts that value's functions call, laid at this program. -/
import Derived.Shelf.Small.Wraps
import Derived.Test.YtijkekkjiboomaaGreatDoorProg
import Derived.Test.YtijkekkjiboomaaGreatDoorVwE
import Derived.Test.YtijkekkjiboomaaGreatDoorVwD
namespace Go.Proofs
open Go.Shelf
def Tryz.lays103_ren : Go.Shelf.Ren := ⟨fun | 103 => 107 | 210 => 114 | 206 => 101 | n => n, fun | 9 => 9 | 4 => 4 | 24 => 136 | 3 => 3 | n => n, fun | n => n⟩
theorem Tryz.lays103 : Go.Proofs.Lays.n103 Tryz.prog Tryz.lays103_ren := {
  mixed := by kernel_rfl
  f103 := Tryz.func107.trans (congrArg some (by kernel_rfl))
  f206 := Tryz.func101.trans (congrArg some (by kernel_rfl))
  f210 := Tryz.func114.trans (congrArg some (by kernel_rfl))
  t3 := Tryz.underlying3
  a3 := Tryz.isAgg3
  z3 := Tryz.sizeOf3
  v3 := Tryz.zeroValue3
  t4 := Tryz.underlying4
  a4 := Tryz.isAgg4
  z4 := Tryz.sizeOf4
  v4 := Tryz.zeroValue4
  t9 := Tryz.underlying9
  a9 := Tryz.isAgg9
  z9 := Tryz.sizeOf9
  v9 := Tryz.zeroValue9
  t24 := Tryz.underlying136
  a24 := Tryz.isAgg136
  z24 := Tryz.sizeOf136
  v24 := Tryz.zeroValue136 }
open Go.RowKit in
theorem Tryz.strings_CutPrefix (s p : ByteArray) (w : World) :
    Calls Tryz.prog 107 #[.string s, .string p] w fun e w' => e = .returned (.tuple #[.string ⟨(Lib.trimPrefix s.data.toList p.data.toList).toArray⟩, .bool (Lib.hasPrefix s.data.toList p.data.toList)]) ∧ w' = w := Any.strings_CutPrefix Tryz.lays103 s p w
end Go.Proofs

/- Views: alikeRunes: how many runes both texts begin with. -/
namespace Go.Proofs.YtijkekkjiboomaaGreatDoor
open Go.RowKit Go.Shelf
set_option linter.unusedVariables false
set_option linter.unusedSimpArgs false
set_option maxRecDepth 100000
attribute [local go_sem] Oper.semAt_some

instance okRune_dec (r : Nat) : Decidable (okRune r) := by unfold okRune; infer_instance
/-- The rune that is told of a number. -/
def eff (r : Nat) : Nat := if okRune r then r else 65533
def AlkP (bs : List Nat) (pre : List (Nat × Nat)) : Prop := pre.length ≤ bs.length ∧ pre.map (fun x => eff x.2) = bs.take pre.length
/-- Behind a common beginning. -/
def AlkI (bs : List Nat) (w : World) (pre : List (Nat × Nat)) (W : World) : Prop :=
  (AlkP bs pre) ∧ (Boxed W w.heap.size 9 (.string (strOf (encAll (bs.drop pre.length)))) ∧ (Boxed W (w.heap.size + 1) 3 (.int .i64 (pre.length : Int)) ∧ Below w.heap.size w W))
theorem alkI_own (bs : List Nat) (w : World) (N : Nat) (hN : w.heap.size ≤ N) : OwnFrom N (AlkI bs w) :=
  OwnFrom.and (ownFrom_pure _ _) (OwnFrom.and (Own.from (boxed_own _ _ _) _) (OwnFrom.and (Own.from (boxed_own _ _ _) _) (ownFrom_below (Nat.le_refl _) hN)))
def AlkX (bs : List Nat) (w : World) (c : Code) (xs : List (Nat × Nat)) (W : World) : Prop := c = .exit 0 ∧ ∃ pre x, xs = pre ++ [x] ∧ (bs.drop pre.length).head? ≠ some (eff x.2) ∧ AlkI bs w pre W
theorem alkX_own (bs : List Nat) (w : World) (N : Nat) (hN : w.heap.size ≤ N) (c : Code) : OwnFrom N (AlkX bs w c) := by
  rintro xs A B row ⟨hc, pre, x, he, hx, hi⟩ hg hr
  exact ⟨hc, pre, x, he, hx, alkI_own bs w N hN pre A B row hi hg hr⟩
theorem eff_ok (r : Nat) : okRune (eff r) := by
  unfold eff
  split
  · assumption
  · unfold okRune; omega
theorem eff_id {r : Nat} (h : okRune r) : eff r = r := if_pos h
theorem encode_eff (r : Nat) : (Utf8.encode (r : Int)).data.toList = encR (eff r) := by
  by_cases h : okRune r
  · rw [eff_id h]; exact encode_ok r h
  · have e : eff r = 65533 := if_neg h
    rw [e]
    have hv : Utf8.valid (r : Int) = false := by
      unfold Utf8.valid
      unfold okRune at h
      simp
      omega
    have h2 : Utf8.encode (r : Int) = Utf8.encode ((65533 : Nat) : Int) := by
      unfold Utf8.encode
      rw [hv]
      rfl
    rw [h2]
    exact encode_ok 65533 (by unfold okRune; omega)
theorem prefix_enc {c : Nat} {bs : List Nat} (hc : okRune c) (hb : ∀ r ∈ bs, okRune r) : encR c <+: encAll bs ↔ bs.head? = some c := by
  constructor
  · rintro ⟨t, ht⟩
    have h1 := nxt_enc c hc t
    rw [ht] at h1
    cases bs with
    | nil =>
      have := (encR_len c).1
      have h3 : encR c = [] := (List.append_eq_nil_iff.1 (show encR c ++ t = [] from ht)).1
      rw [h3] at this
      simp at this
    | cons d bs =>
      rw [encAll_cons, nxt_enc d (hb d (by simp))] at h1
      simp only [Prod.mk.injEq] at h1
      rw [h1.1]; rfl
  · intro h
    cases bs with
    | nil => simp at h
    | cons d bs =>
      simp only [List.head?_cons, Option.some.injEq] at h
      subst h
      rw [encAll_cons]; exact List.prefix_append _ _
theorem cutPre_yes {c : Nat} {bs t : List Nat} (hc : okRune c) (hb : ∀ r ∈ bs, okRune r) (h : bs = c :: t) : Go.Lib.hasPrefix (encAll bs) (encR c) = true ∧ Go.Lib.trimPrefix (encAll bs) (encR c) = encAll t := by
  have h1 : Go.Lib.hasPrefix (encAll bs) (encR c) = true := by
    unfold Go.Lib.hasPrefix
    rw [List.isPrefixOf_iff_prefix, prefix_enc hc hb, h]; rfl
  refine ⟨h1, ?_⟩
  unfold Go.Lib.trimPrefix
  rw [h1]
  subst h
  rw [encAll_cons]
  simp
theorem cutPre_no {c : Nat} {bs : List Nat} (hc : okRune c) (hb : ∀ r ∈ bs, okRune r) (h : bs.head? ≠ some c) : Go.Lib.hasPrefix (encAll bs) (encR c) = false := by
  cases e : Go.Lib.hasPrefix (encAll bs) (encR c) with
  | false => rfl
  | true =>
    unfold Go.Lib.hasPrefix at e
    rw [List.isPrefixOf_iff_prefix, prefix_enc hc hb] at e
    exact absurd e h
theorem AlkP.snoc {bs : List Nat} {pre : List (Nat × Nat)} {x : Nat × Nat} (h : AlkP bs pre) (hx : (bs.drop pre.length).head? = some (eff x.2)) : AlkP bs (pre ++ [x]) := by
  obtain ⟨h1, h2⟩ := h
  rw [List.head?_drop] at hx
  obtain ⟨hlt, he⟩ := List.getElem?_eq_some_iff.1 hx
  refine ⟨by rw [List.length_append]; simp; omega, ?_⟩
  rw [List.map_append, h2, List.length_append, List.length_singleton, List.take_succ_eq_append_getElem hlt, he]
  rfl
theorem enumR_eff (k : Nat) (l : List Nat) (h : ∀ r ∈ l, okRune r) : (enumR k l).map (fun x => eff x.2) = l := by
  induction l generalizing k with
  | nil => rfl
  | cons a l ih => simp [enumR, ih (k + 1) fun r hr => h r (List.mem_cons_of_mem _ hr), eff_id (h a (by simp))]
theorem alk_done {al bs : List Nat} (ha : ∀ r ∈ al, okRune r) (h : AlkP bs (enumR 0 al)) : IsLcp al bs (enumR 0 al).length := by
  obtain ⟨h1, h2⟩ := h
  rw [enumR_eff 0 al ha, enumR_len] at h2
  rw [enumR_len] at h1 ⊢
  exact ⟨Nat.le_refl _, h1, by rw [List.take_length]; exact h2, fun h => absurd h (Nat.lt_irrefl _)⟩
theorem alk_stop {al bs : List Nat} {pre : List (Nat × Nat)} {x : Nat × Nat} (ha : ∀ r ∈ al, okRune r) (h : AlkP bs pre) (hp : pre ++ [x] <+: enumR 0 al) (hx : (bs.drop pre.length).head? ≠ some (eff x.2)) : IsLcp al bs pre.length := by
  obtain ⟨t, ht⟩ := hp
  have h3 := congrArg (List.map fun x => eff x.2) ht
  rw [enumR_eff 0 al ha, List.map_append, List.map_append, h.2] at h3
  have hl : (bs.take pre.length).length = pre.length := by rw [List.length_take]; have := h.1; omega
  have e1 : al.take pre.length = bs.take pre.length := by rw [← h3, List.append_assoc, List.take_append_of_le_length (by omega), List.take_of_length_le (by omega)]
  have e2 : al[pre.length]? = some (eff x.2) := by
    rw [← h3, List.append_assoc, List.getElem?_append_right (by omega), hl, Nat.sub_self]
    rfl
  obtain ⟨hlt, he⟩ := List.getElem?_eq_some_iff.1 e2
  refine ⟨Nat.le_of_lt hlt, h.1, e1, fun h4 h5 e => hx ?_⟩
  rw [List.head?_drop, List.getElem?_eq_getElem h5, ← e, he]
set_option maxHeartbeats 4000000 in
theorem alkRunes_any (a b : ByteArray) (hb : (runesOf b.data.toList).isSome = true) (hs : a.size ≤ 1048576) (w : World) (hT : TabsU w) : Calls Tryz.prog 93 #[.string a, .string b] w fun e w' => e = .returned (.int .i64 (lcpN (rsOf a.data.toList) (rsOf b.data.toList) : Int)) ∧ Touch (fun _ => False) w w' := by
  obtain ⟨bs, hbs⟩ := Option.isSome_iff_exists.1 hb
  have hbe := enc_runesOf bs _ hbs
  have hbq : strOf (encAll bs) = b := by rw [hbe.2]; exact strOf_self _
  have HLB : Hid (rsOf b.data.toList = bs) := rsOf_some hbs
  have HOB : Hid (∀ r ∈ bs, okRune r) := hbe.1
  rw [HLB.out]
  have hal : (rsOf a.data.toList).length ≤ 1048576 := by
    have h1 := rsOf_len a.data.toList
    have h2 : a.data.toList.length = a.size := by simp
    omega
  refine (callsIn_wide (n := 3)).1 ?_
  refine callsIn_of_wp_marks Tryz.func93 rfl trivial ?_ rfl
  simp only [Tryz.ntmps93, List.size_toArray, List.length_cons, List.length_nil, Nat.reduceAdd, Nat.reduceSub, Array.replicate_succ, Array.replicate_zero, List.push_toArray, List.append_toArray, List.nil_append, List.cons_append]
  gi_wp2_with fail
  refine ⟨trivial, (callsIn_wide.2 (utf_runes a _)).mono ?_⟩
  rintro e w1 ⟨rfl, rfl⟩
  gi_wp2
  rename_i K0 hK0
  have c0 := ((Boxed.new w 9 (.string b)).alloc (.cells #[.int .i64 0] 3)).alloc (.cells #[.string a] 9)
  have c1 := (Boxed.new (w.alloc (.cells #[.string b] 9)) 3 (.int .i64 0)).alloc (.cells #[.string a] 9)
  have c2 := Boxed.new ((w.alloc (.cells #[.string b] 9)).alloc (.cells #[.int .i64 0] 3)) 9 (.string a)
  simp only [World.size_alloc] at c1 c2
  have hB0 : Below w.heap.size w (((w.alloc (.cells #[.string b] 9)).alloc (.cells #[.int .i64 0] 3)).alloc (.cells #[.string a] 9)) := (((Below.refl _ w).alloc (Nat.le_refl _) _).alloc (by simp) _).alloc (by simp; omega) _
  have hsz : (((w.alloc (.cells #[.string b] 9)).alloc (.cells #[.int .i64 0] 3)).alloc (.cells #[.string a] 9)).heap.size = w.heap.size + 3 := by simp
  generalize hW0 : (((w.alloc (.cells #[.string b] 9)).alloc (.cells #[.int .i64 0] 3)).alloc (.cells #[.string a] 9)) = W0 at *
  refine wpIn_rangeFunc_ownF rfl (by decide) (gf := 103) (lb := #[.pointer (some ⟨w.heap.size + 1 + 1, 0, none⟩)]) rfl trivial (enters_of Tryz.func103 (by kernel_rfl) rfl)
    (iter_of _ (w.heap.size + 1 + 1) a (by omega) _ (hT.keep (Touch.ofBelow hB0)) c2.cell) walksK_t walksK_b (Below.refl _ _) (fun _ => rfl)
    (AlkI bs w) (AlkX bs w) (alkI_own bs w _ (by omega)) (fun c => alkX_own bs w _ (by omega) c)
    ⟨⟨Nat.zero_le _, rfl⟩, by rw [show ([] : List (Nat × Nat)).length = 0 from rfl, List.drop_zero, hbq]; exact c0, c1, hB0⟩
    (fun x => { tmps := #[.string a, .string b, undef, .pointer (some ⟨w.heap.size, 0, none⟩), .int .i64 0, .pointer (some ⟨w.heap.size + 1, 0, none⟩), undef, .int .i32 (x.2 : Int), undef, undef, .string a, .func (.func 103) #[] #[.pointer (some ⟨w.heap.size + 1 + 1, 0, none⟩)], .int .i64 (x.1 : Int), .int .i32 (x.2 : Int), undef, undef, undef, undef, undef, undef, undef, undef, undef, undef, undef, undef, undef], defers := [] }) ?assign ?body ?done ?stop
  case assign =>
    intro l x W K hK
    gi_wp2
    first | exact hK | simpa [enc2] using hK
  case body =>
    rintro l pre x W ⟨hU, d0, d1, hB⟩ hlt
    have k0 := d0.cell
    have f0 := d0.frozen
    have k1 := d1.cell
    have HXA : Hid ((Utf8.encode (x.2 : Int)) = strOf (encR (eff x.2))) := bytes_ext (by rw [encode_eff, strOf_list])
    have hob : ∀ r ∈ bs.drop pre.length, okRune r := fun r hr => HOB.out r (List.mem_of_mem_drop hr)
    have HCP : Hid (∀ w, Calls Tryz.prog 107 #[.string (strOf (encAll (bs.drop pre.length))), .string (strOf (encR (eff x.2)))] w fun e w' => e = .returned (.tuple #[.string (strOf (Go.Lib.trimPrefix (encAll (bs.drop pre.length)) (encR (eff x.2)))), .bool (Go.Lib.hasPrefix (encAll (bs.drop pre.length)) (encR (eff x.2)))]) ∧ w' = w) := fun w => by
      have := Tryz.strings_CutPrefix (strOf (encAll (bs.drop pre.length))) (strOf (encR (eff x.2))) w
      rw [strOf_list, strOf_list] at this
      exact this
    by_cases hh : (bs.drop pre.length).head? = some (eff x.2)
    · obtain ⟨t, ht⟩ : ∃ t, bs.drop pre.length = eff x.2 :: t := by
        cases hd : bs.drop pre.length with
        | nil => rw [hd] at hh; simp at hh
        | cons c t => rw [hd] at hh; simp only [List.head?_cons, Option.some.injEq] at hh; exact ⟨t, by rw [hh]⟩
      obtain ⟨p1, p2⟩ := cutPre_yes (eff_ok x.2) hob ht
      have htd : bs.drop (pre ++ [x]).length = t := by
        rw [List.length_append, List.length_singleton, ← List.drop_drop, ht]; rfl
      rw [p1, p2] at HCP
      have HEnd : Hid (ownPostK KeepsWalks (AlkI bs w) (AlkX bs w) (pre ++ [x]) W .normal ⟨#[], []⟩ ((W.setCell ⟨w.heap.size, 0, none⟩ (.string (strOf (encAll t)))).setCell ⟨w.heap.size + 1, 0, none⟩ (.int .i64 ((pre.length : Int) + 1)))) := by
        have hk1 : KeepsOthers W (W.setCell ⟨w.heap.size, 0, none⟩ (.string (strOf (encAll t)))) := KeepsOthers.setCell _ _ _
        have hk2 := hk1.trans (KeepsOthers.setCell _ ⟨w.heap.size + 1, 0, none⟩ (.int .i64 ((pre.length : Int) + 1)))
        refine ⟨hk2, walks_of hk2, hU.snoc hh, ?_, ?_, (hB.setCell (p := ⟨w.heap.size, 0, none⟩) (by simp only; omega) _).setCell (p := ⟨w.heap.size + 1, 0, none⟩) (by simp only; omega) _⟩
        · rw [htd]; exact (d0.set _).other (by omega) _
        · have e : (((pre ++ [x]).length : Nat) : Int) = (pre.length : Int) + 1 := by rw [List.length_append]; rfl
          rw [e]; exact (d1.other (by omega) _).set _
      have k1' : (W.setCell ⟨w.heap.size, 0, none⟩ (.string (strOf (encAll t)))).cell? ⟨w.heap.size + 1, 0, none⟩ = some (.int .i64 (pre.length : Int)) := (d1.other (by omega) _).cell
      have f1' : (W.setCell ⟨w.heap.size, 0, none⟩ (.string (strOf (encAll t)))).frozen? ⟨w.heap.size + 1, 0, none⟩ = false := (d1.other (by omega) _).frozen
      have hpl : (pre.length : Int) < 1048576 := by omega
      have hp0 : (0 : Int) ≤ (pre.length : Int) := by omega
      clear hW0 hsz c0 c1 c2 d0 d1 hB0 hB hU hlt hK0 hT p1 p2 htd ht hh hob hbe hbq hbs hb
      generalize strOf (encAll t) = st at *
      generalize strOf (encAll (bs.drop pre.length)) = sb at *
      generalize strOf (encR (eff x.2)) = se at *
      generalize pre.length = n at *
      gi_wp2
      refine ⟨trivial, ?_⟩
      rw [HXA.out]
      refine (CallsIn.inRound l (callsIn_wide.2 (HCP.out _))).mono ?_
      rintro e w' ⟨rfl, rfl⟩
      gi_wp2
      exact HEnd.out
    · have p1 := cutPre_no (eff_ok x.2) hob hh
      rw [p1] at HCP
      have HEnd : Hid (AlkX bs w (.exit 0) (pre ++ [x]) W) := ⟨rfl, pre, x, rfl, hh, hU, d0, d1, hB⟩
      clear hW0 hsz c0 c1 c2 d0 d1 hB0 hB hU hlt hK0 hT p1 hh hob hbe hbq hbs hb
      generalize strOf (Go.Lib.trimPrefix (encAll (bs.drop pre.length)) (encR (eff x.2))) = st at *
      generalize strOf (encAll (bs.drop pre.length)) = sb at *
      generalize strOf (encR (eff x.2)) = se at *
      gi_wp2
      refine ⟨trivial, ?_⟩
      rw [HXA.out]
      refine (CallsIn.inRound l (callsIn_wide.2 (HCP.out _))).mono ?_
      rintro e w' ⟨rfl, rfl⟩
      gi_wp2
      exact ⟨KeepsOthers.refl _, HEnd.out⟩
  case done =>
    rintro D ys W hD rfl ⟨hU, d0, d1, hB⟩ hK
    have hI := (alk_done (rsOf_ok _) hU).uniq (lcpN_is _ _)
    rw [hI] at d1
    have k1 := d1.cell
    have HB : Hid (Below w.heap.size w W) := hB
    have HDz : Hid (w.heap.size ≤ D) := by show _ ≤ _; omega
    clear hW0 hsz c0 c1 c2 d0 d1 hB0 hB hU hT hI
    generalize hnn : lcpN (rsOf a.data.toList) bs = n at *
    have HNN : Hid (lcpN (rsOf a.data.toList) bs = n) := hnn
    clear hnn
    gi_wp2
    refine ⟨by simp, .inl ⟨_, _, rfl, run_takeDeferred hK, ?_⟩⟩
    refine ⟨.int .i64 (n : Int), ?_, by rw [HNN.out], Touch.ofBelow (HB.out.trans (belowK_b (w := w) (Nat.le_refl _) W D _ _ HDz.out hK rfl rfl))⟩
    simp [results, Tryz.f93, go_sem]
  case stop =>
    rintro D c xs W hD hpre ⟨rfl, pre, x, rfl, hx, hU, d0, d1, hB⟩ hK
    have hI := (alk_stop (rsOf_ok _) hU hpre hx).uniq (lcpN_is _ _)
    rw [hI] at d1
    have k1 := d1.cell
    have HB : Hid (Below w.heap.size w W) := hB
    have HDz : Hid (w.heap.size ≤ D) := by show _ ≤ _; omega
    clear hW0 hsz c0 c1 c2 d0 d1 hB0 hB hU hT hI hpre hx
    generalize hnn : lcpN (rsOf a.data.toList) bs = n at *
    have HNN : Hid (lcpN (rsOf a.data.toList) bs = n) := hnn
    clear hnn
    gi_wp2
    refine ⟨by simp, .inl ⟨_, _, rfl, run_takeDeferred hK, ?_⟩⟩
    refine ⟨.int .i64 (n : Int), ?_, by rw [HNN.out], Touch.ofBelow (HB.out.trans (belowK_b (w := w) (Nat.le_refl _) W D _ _ HDz.out hK rfl rfl))⟩
    simp [results, Tryz.f93, go_sem]
end Go.Proofs.YtijkekkjiboomaaGreatDoor
