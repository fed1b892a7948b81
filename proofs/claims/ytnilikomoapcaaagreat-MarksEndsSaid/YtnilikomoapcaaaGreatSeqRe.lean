/- Package seq's row: add, the walk. -/
import Derived.Test.YtnilikomoapcaaaGreatPart6
namespace Go.Proofs.YtnilikomoapcaaaGreat
open Go.RowKit
set_option linter.unusedVariables false
set_option linter.unusedSimpArgs false
set_option maxRecDepth 100000

theorem wpList_append_runH {w w' : World} {ops : Array Oper} {rest : List Oper} {o : Oper} {a : Act} {Q : Exit → Act → World → Prop} (hgd : o.guard = none) (s x : Operand)
    (ho : o.op = .call { callee := .builtin .append, args := #[s, x], argTypes := #[69, 69] }) (v y v' : Value) (hs : a.eval s = v) (hx : a.eval x = y)
    (hrun : (Builtin.append_ #[69, 69] o.type #[v, y]).run Tryz.prog w = .ok v' w') (h : wpList Tryz.prog ops Q rest (a.put o.dst v') w') : wpList Tryz.prog ops Q (o :: rest) a w := by
  refine wpList_plain hgd fun K' hK' => ?_
  unfold Oper.wp
  simp [execOp, ho, resolve, invoke, builtin, hs, hx, hrun, Result.andThen]
  exact hK' _ _ h
theorem AddF.touch {w w1 w2 : World} {b k g g' : Nat} (h : AddF w w1 b k g) (hb : b ≠ g') (hg : g' = g ∨ w.heap.size ≤ g') (hbl : b < w1.heap.size) (t : Touch (· = g') w1 w2) : AddF w w2 b k g := by
  refine ⟨t.os.trans h.os, t.tape.trans h.tape, t.output.trans h.output, Nat.le_trans h.size t.size, fun x hx h1 h2 => ?_, fun j hj => ?_, fun c ty fr hb' => ?_⟩
  · rw [t.block x (Nat.lt_of_lt_of_le hx h.size) (by rcases hg with e | e <;> omega)]
    exact h.block x hx h1 h2
  · rw [World.cell?_of_block (t.block b hbl hb)]
    exact h.cells j hj
  · obtain ⟨v, hv⟩ := h.blk c ty fr hb'
    exact ⟨v, (t.block b hbl hb).trans hv⟩
theorem ups_nodup : ∀ {c : List Fr}, (cl c ++ cr c).Nodup → (ups c).Nodup
  | [], _ => List.nodup_nil
  | .L u r :: c, hn => by
    have hn' : (cl c ++ (u :: r.flat ++ cr c)).Nodup := by simpa [cl, cr] using hn
    have hnd := List.nodup_append.1 hn'
    have hnd2 := List.nodup_append.1 hnd.2.1
    have hcc : (cl c ++ cr c).Nodup := List.nodup_append.2 ⟨hnd.1, hnd2.2.1, fun x hx y hy => hnd.2.2 x hx y (by simp [hy])⟩
    refine List.nodup_cons.2 ⟨fun h => ?_, ups_nodup hcc⟩
    rcases List.mem_append.1 (ups_sub h) with h | h
    · exact hnd.2.2 u h u (by simp) rfl
    · exact hnd2.2.2 u (by simp) u h rfl
  | .R l u :: c, hn => by
    have hn' : (cl c ++ (l.flat ++ [u]) ++ cr c).Nodup := by simpa [cl, cr] using hn
    have hnd := List.nodup_append.1 hn'
    have hnd1 := List.nodup_append.1 hnd.1
    have hcc : (cl c ++ cr c).Nodup := List.nodup_append.2 ⟨hnd1.1, hnd.2.1, fun x hx y hy => hnd.2.2 x (by simp [hx]) y hy⟩
    refine List.nodup_cons.2 ⟨fun h => ?_, ups_nodup hcc⟩
    rcases List.mem_append.1 (ups_sub h) with h | h
    · exact hnd1.2.2 u h u (by simp) rfl
    · exact hnd.2.2 u (by simp) u h rfl
/-- What grow asks, at a leaf that is hung. -/
theorem grow_asks {A1 : Nat → Th} {n : Nat} {F : List Nat} {q : Nat → Int} {c : List Fr} {lg : Int} (hr : Rep A1 0 (plug c (.node .nil n .nil))) (hS : Seen (growA A1 n (n :: ups c) lg) (n + 1) n F q c .nil .nil) (hs : (plug c (.node .nil n .nil)).sum (growA A1 n (n :: ups c) lg) ≤ 1152921504606846976) (hl : 0 ≤ lg) (hl2 : lg ≤ 1152921504606846976) (h0 : (A1 n).long = 0) :
    (∀ x ∈ n :: ups c, x < n + 1 ∧ x ≠ 0) ∧ (n :: ups c).Nodup ∧ WayUp A1 (n :: ups c) ∧ (∀ x ∈ n :: ups c, IntKind.i64.wrap ((A1 x).whole + lg) = (A1 x).whole + lg) ∧ IntKind.i64.wrap ((A1 n).long + lg) = (A1 n).long + lg := by
  have hup : ∀ x ∈ n :: ups c, x ∈ (plug c (.node .nil n .nil)).flat := fun x hx => by
    rcases List.mem_cons.1 hx with rfl | hx
    · rw [flat_plug]; simp [Tr.flat]
    · exact ups_flat hx
  have hN := hS.ok.nod
  rw [flat_plug] at hN
  have hN' : (cl c ++ [n] ++ cr c).Nodup := hN
  have hnd := List.nodup_append.1 hN'
  have hnd1 := List.nodup_append.1 hnd.1
  have hcc : (cl c ++ cr c).Nodup := List.nodup_append.2 ⟨hnd1.1, hnd.2.1, fun x hx y hy => hnd.2.2 x (by simp [hx]) y hy⟩
  obtain ⟨hC, i1, _⟩ := (rep_plug A1 c (.node .nil n .nil)).1 hr
  have hT := hS.ok.tame hs
  refine ⟨fun x hx => ?_, List.nodup_cons.2 ⟨fun h => ?_, ups_nodup hcc⟩, hC.way i1, fun x hx => ?_, ?_⟩
  · have := (hS.ok.lab x).1 (hup x hx)
    exact ⟨by omega, by omega⟩
  · rcases List.mem_append.1 (ups_sub h) with h | h
    · exact hnd1.2.2 n h n (by simp) rfl
    · exact hnd.2.2 n (by simp) n h rfl
  · have h1 := (hT x).2.2
    have e : (growA A1 n (n :: ups c) lg x).whole = (A1 x).whole + lg := by
      unfold growA moreW
      rw [if_pos hx]
      unfold moreL
      by_cases e : x = n
      · rw [if_pos e, e]
      · rw [if_neg e]
    rw [e] at h1
    exact wrap3 _ (by omega) (by omega)
  · rw [h0]
    exact wrap3 _ (by omega) (by omega)
/-- The row's whole with the new one. -/
theorem sum_seen {A B : Nat → Th} {n : Nat} {P Q : List Nat} {c : List Fr} {a d t : Tr} {lg : Int} (hS : Seen B (n + 1) n (P ++ n :: Q) (fun x => (A x).long + (if x = n then lg else 0)) c a d) (hf : t.flat = P ++ Q) (h0 : (A n).long = 0) (hn : n ∉ P ++ Q) : (plug c (.node a n d)).sum B = t.sum A + lg := by
  have h1 : ∀ l : List Nat, n ∉ l → (l.map fun x => (B x).long).sum = (l.map fun x => (A x).long).sum := fun l hl => by
    congr 1
    refine List.map_congr_left fun x hx => ?_
    have hxn : x ≠ n := fun e => hl (e ▸ hx)
    have := hS.long x
    rw [if_neg hxn] at this
    omega
  rw [Tr.sum_flat, Tr.sum_flat, hS.flat, hf]
  simp only [List.map_append, List.map_cons, List.sum_append, List.sum_cons]
  rw [h1 P (fun h => hn (by simp [h])), h1 Q (fun h => hn (by simp [h])), hS.long n, h0]
  simp only [if_true]
  omega
set_option maxHeartbeats 16000000 in
theorem add_any {w : World} {b k g cap : Nat} {L : List Th} (h : Things w b k g cap L) (hfz : ∀ W : World, W.heap[b]? = w.heap[b]? → W.frozen? ⟨b, k, none⟩ = false) (t : Tr) (hok : RowOk (gt L) L.length t) (i : Nat) (hi : i < L.length) (lg : Int) (hl : 0 ≤ lg) (hs : t.sum (gt L) + lg ≤ 1152921504606846976) (hlen : L.length ≤ 1073741824) :
    Calls Tryz.prog 78 #[rP b k, iV (i : Int), iV lg] w fun e w' => e = .returned (.tuple #[]) ∧ (∃ g' cap' L' t' P Q, (g' = g ∨ w.heap.size ≤ g') ∧ Things w' b k g' cap' L' ∧ L'.length = L.length + 1 ∧ RowOk (gt L') (L.length + 1) t' ∧ t.flat = P ++ Q ∧ t'.flat = P ++ L.length :: Q ∧ ((i = 0 ∧ P = []) ∨ (i ≠ 0 ∧ ∃ P', P = P' ++ [i])) ∧ ∀ x, (gt L' x).long = (gt L x).long + (if x = L.length then lg else 0)) ∧ AddF w w' b k g := by
  obtain ⟨d, c1, P, Q, hu⟩ := hung_of hok hi hl
  obtain ⟨g', cap', w1, hrun, hT1, hA1, hgg, ⟨v, hcv⟩, hb1⟩ := append_thing h hlen
  have hbz : ∀ (W : World), (Instr.buildSlice 69 1 #[(0, .agg #[iV 0, iV 0, iV 0, iV 0, iV 0])]).run Tryz.prog W = .ok (.slice (some ⟨W.heap.size, 0, none⟩) 1 1) (W.alloc zeroTO) := fun W => by kernel_rfl
  have z1 := hfz w1 hb1
  have hc := h.cell
  obtain ⟨W1, hW1⟩ : ∃ W, Hid (W = w1.setCell ⟨b, k, none⟩ (.slice (some ⟨g', 0, none⟩) (L.length + 1) cap')) := ⟨_, Eq.refl _⟩
  have H1 : Hid (Things W1 b k g' cap' (L ++ [zeroT]) ∧ AddF w W1 b k g) := by rw [hW1.out]; exact ⟨hT1, hA1⟩
  clear hT1 hA1 h
  go_enter Tryz.func78, Tryz.ntmps78
  go_upto_region 1 with fail
  refine wp_region_lit ?_
  iterate 7
    refine wpList_plain rfl fun K hK => ?_
    go_simp
    refine hK _ _ ?_
    clear hK K
  refine wpList_append_runH rfl _ _ rfl _ _ _ rfl rfl hrun ?_
  simp only [Act.put, List.setIfInBounds_toArray, List.set_cons_succ, List.set_cons_zero]
  clear hrun hc
  go_upto_region 2 with fail
  rw [← hW1.out]
  obtain ⟨n, hn⟩ : ∃ n, Hid (n = L.length) := ⟨_, Eq.refl _⟩
  have HE : Hid (gt (L ++ [zeroT]) = gt L ∧ (L ++ [zeroT]).length = n + 1) := ⟨gt_snoc L, by rw [List.length_append, hn.out]; rfl⟩
  have HU : Hid (Hung (gt L) n i t lg d c1 P Q) := by rw [hn.out]; exact hu
  have HOk : Hid (RowOk (gt L) n t ∧ t.sum (gt L) + lg ≤ 1152921504606846976 ∧ i < n) := by rw [hn.out]; exact ⟨hok, hs, hi⟩
  have HB : Hid (b ≠ g' ∧ (g' = g ∨ w.heap.size ≤ g')) := ⟨H1.out.1.ne, hgg⟩
  obtain ⟨u, hu'⟩ : ∃ u, Hid (u = if d.root = 0 then i else d.first) := ⟨_, Eq.refl _⟩
  obtain ⟨s, hs'⟩ : ∃ s : Nat, Hid (s = if d.root = 0 then 1 else 0) := ⟨_, Eq.refl _⟩
  rw [← hn.out]
  obtain ⟨L1, hL1⟩ : ∃ l, Hid (l = L ++ [zeroT]) := ⟨_, Eq.refl _⟩
  rw [← hL1.out] at H1 HE
  clear hL1 hu hok hs hi hgg hcv hb1 z1 hW1
  have hi1 : i < L1.length := by rw [HE.out.2]; have := HOk.out.2.2; omega
  have q2 := (H1.out.1.th i hi1).c2
  rw [← gt_of hi1, HE.out.1, HU.out.d1] at q2
  have hc := H1.out.1.cell
  rw [HE.out.2] at hc
  have li : (i : Int) < ((n + 1 : Nat) : Int) := by have := HOk.out.2.2; omega
  have li' : (i : Int) < (n : Int) + 1 := by omega
  have li0 : (0 : Int) ≤ (i : Int) := by omega
  by_cases hd0 : d.root = 0
  · have HHg : Hid (Calls Tryz.prog 95 #[rP b k, iV (i : Int), iV 1, iV (n : Int)] W1 fun e w' => e = .returned (.tuple #[]) ∧ Things w' b k g' cap' (hangL L1 i 1 n) ∧ Touch (· = g') W1 w') := hang_any H1.out.1 i 1 n hi1 (by omega) (by rw [HE.out.2]; omega)
    obtain ⟨L2, hL2⟩ : ∃ l, Hid (l = hangL L1 i 1 n) := ⟨_, Eq.refl _⟩
    have HL2' : Hid (gt L2 = hangA (gt L) (if d.root = 0 then i else d.first) (if d.root = 0 then 1 else 0) n ∧ L2.length = n + 1) := by
      rw [hL2.out, if_pos hd0, if_pos hd0, gt_hangL hi1 (by rw [HE.out.2]; omega), HE.out.1, hangL_len]
      exact ⟨rfl, HE.out.2⟩
    rw [← hL2.out] at HHg
    rw [hd0] at q2
    clear hL2 hu' hs'
    go_wp2_with fail
    refine HHg.out.mono ?_
    rintro e W2 ⟨rfl, hW2, t2⟩
    have HT2 : Hid (Things W2 b k g' cap' L2 ∧ AddF w W2 b k g) := ⟨hW2, H1.out.2.touch HB.out.1 HB.out.2 (World.block_lt_of_cell? _ _ H1.out.1.cell) t2⟩
    clear hW2 t2 HHg q2 hc
    have HL2 : Hid (gt L2 = hangA (gt L) (if d.root = 0 then i else d.first) (if d.root = 0 then 1 else 0) n ∧ L2.length = n + 1) := HL2'
    have hnn : n ∉ P ++ Q := by rw [← HU.out.flat]; exact (fresh_of HOk.out.1).nl
    have hn0 : (gt L n).long = 0 := by rw [HOk.out.1.out n (Nat.le_refl _)]
    have HSum : Hid (∀ (B : Nat → Th) (c : List Fr) (a d' : Tr), Seen B (n + 1) n (P ++ n :: Q) (fun x => (gt L x).long + (if x = n then lg else 0)) c a d' → (plug c (.node a n d')).sum B ≤ 1152921504606846976) := fun B c a d' hS => by
      rw [sum_seen hS HU.out.flat hn0 hnn]
      exact HOk.out.2.1
    have h1n : 1 ≤ n := HOk.out.1.n0
    have hsn := Tr.sum_nn HOk.out.1.long t
    have hbd := HOk.out.2.1
    have hA1n : (gt L2 n).long = 0 := by
      rw [HL2.out.1]
      obtain ⟨f1, f2, f3⟩ := hang_facts (s := (if d.root = 0 then 1 else 0)) (fresh_of HOk.out.1) (show (if d.root = 0 then i else d.first) ≠ n from by have := HU.out.ult; omega)
      rw [f2]
    have hSg : Seen (growA (gt L2) n (n :: ups c1) lg) (n + 1) n (P ++ n :: Q) (fun x => (gt L x).long + (if x = n then lg else 0)) c1 .nil .nil := by rw [HL2.out.1]; exact HU.out.seen
    have hRg : Rep (gt L2) 0 (plug c1 (.node .nil n .nil)) := by rw [HL2.out.1]; exact HU.out.hung
    obtain ⟨k1, k2, k3, k4, k5⟩ := grow_asks hRg hSg (HSum.out _ _ _ _ hSg) hl (by omega) hA1n
    have HGr : Hid (Calls Tryz.prog 53 #[rP b k, iV (n : Int), iV lg] W2 fun e w' => e = .returned (.tuple #[]) ∧ (∃ L', Things w' b k g' cap' L' ∧ L'.length = L2.length ∧ gt L' = growA (gt L2) n (n :: ups c1) lg) ∧ Touch (· = g') W2 w') := grow_any HT2.out.1 n (ups c1) lg (by rw [HL2.out.2]; omega) (by omega) (fun x hx => by rw [HL2.out.2]; exact k1 x hx) k2 k3 k4 k5
    have HSg : Hid (Seen (growA (gt L2) n (n :: ups c1) lg) (n + 1) n (P ++ n :: Q) (fun x => (gt L x).long + (if x = n then lg else 0)) c1 .nil .nil) := hSg
    clear k1 k2 k3 k4 k5 hRg hSg hA1n hnn hn0 hsn hbd
    go_wp2_with fail
    refine HGr.out.mono ?_
    rintro e W3 ⟨rfl, ⟨L3, h3, hl3, e3⟩, t3⟩
    have H3 : Hid (Things W3 b k g' cap' L3 ∧ L3.length = n + 1 ∧ AddF w W3 b k g ∧ Seen (gt L3) (n + 1) n (P ++ n :: Q) (fun x => (gt L x).long + (if x = n then lg else 0)) c1 .nil .nil) := ⟨h3, by rw [hl3]; exact HL2.out.2, HT2.out.2.touch HB.out.1 HB.out.2 (World.block_lt_of_cell? _ _ HT2.out.1.cell) t3, by rw [e3]; exact HSg.out⟩
    clear h3 hl3 e3 t3 HGr HSg HT2 HL2 HL2'
    have HFx : Hid (∀ (wx : World) (Lx : List Th) (c : List Fr) (a d' : Tr), Things wx b k g' cap' Lx → Lx.length = n + 1 → AddF w wx b k g → Seen (gt Lx) (n + 1) n (P ++ n :: Q) (fun x => (gt L x).long + (if x = n then lg else 0)) c a d' → (∃ g' cap' L' t' P Q, (g' = g ∨ w.heap.size ≤ g') ∧ Things wx b k g' cap' L' ∧ L'.length = L.length + 1 ∧ RowOk (gt L') (L.length + 1) t' ∧ t.flat = P ++ Q ∧ t'.flat = P ++ L.length :: Q ∧ ((i = 0 ∧ P = []) ∨ (i ≠ 0 ∧ ∃ P', P = P' ++ [i])) ∧ ∀ x, (gt L' x).long = (gt L x).long + (if x = L.length then lg else 0)) ∧ AddF w wx b k g) := fun wx Lx c a d' q1 q2 q3 q4 => by
      rw [← hn.out]
      exact ⟨⟨g', cap', Lx, _, P, Q, HB.out.2, q1, q2, q4.ok, HU.out.flat, q4.flat, HU.out.behind, q4.long⟩, q3⟩
    have HUp : Hid (∀ (wx : World) (Lx : List Th) (c : List Fr) (a d' : Tr), Things wx b k g' cap' Lx → Lx.length = n + 1 → Seen (gt Lx) (n + 1) n (P ++ n :: Q) (fun x => (gt L x).long + (if x = n then lg else 0)) c a d' → wx.cell? ⟨g', n * 5, none⟩ = some (iV (par c : Int)) ∧ wx.cell? ⟨b, k, none⟩ = some (.slice (some ⟨g', 0, none⟩) (n + 1) cap')) := fun wx Lx c a d' q1 q2 q4 => by
      have hnl : n < Lx.length := by omega
      have q0 := (q1.th n hnl).c0
      rw [← gt_of hnl] at q0
      have := ((rep_plug _ _ _).1 q4.ok.rep).2.1
      rw [this] at q0
      have hc := q1.cell
      rw [q2] at hc
      exact ⟨q0, hc⟩
    have ln : (n : Int) < ((n + 1 : Nat) : Int) := by omega
    have ln' : (n : Int) < (n : Int) + 1 := by omega
    have ln0 : (0 : Int) ≤ (n : Int) := by omega
    obtain ⟨k0, kc⟩ := HUp.out _ _ _ _ _ H3.out.1 H3.out.2.1 H3.out.2.2.2
    go_wp2_with fail
    clear k0 kc
    go_loopg [8] c1.length (fun gk s8 wx => ∃ (c : List Fr) (a d' : Tr) (Lx : List Th) (up : Nat), s8 = iV (up : Int) ∧ Hid (up = par c) ∧ Hid (c.length = gk) ∧ Hid (Things wx b k g' cap' Lx ∧ Lx.length = n + 1 ∧ AddF w wx b k g ∧ Seen (gt Lx) (n + 1) n (P ++ n :: Q) (fun x => (gt L x).long + (if x = n then lg else 0)) c a d'))
    case atStart => exact ⟨c1, .nil, .nil, L3, _, rfl, Eq.refl _, Eq.refl _, H3.out⟩
    case round =>
      obtain ⟨c, a, d', Lx, up, rfl, hup, HM, HX⟩ := hrel
      obtain ⟨X0, hX0⟩ : ∃ X, X = wr := ⟨_, rfl⟩
      subst hX0
      cases c with
      | nil =>
        have e0 : up = 0 := hup.out
        subst e0
        go_wp2_with fail
        go_end0
        exact ⟨rfl, HFx.out _ _ _ _ _ HX.out.1 HX.out.2.1 HX.out.2.2.1 HX.out.2.2.2⟩
      | cons f c =>
        have hu0 : up ≠ 0 := by
          rw [hup.out]
          have : par (f :: c) ∈ (plug (f :: c) (.node a n d')).flat := by
            rw [flat_plug]
            rcases List.mem_append.1 (par_mem (c := f :: c) (by simp)) with h9 | h9 <;> simp [h9]
          exact fun e => HX.out.2.2.2.zero (e ▸ this)
        have e0 : ((up : Int) != 0) = true := by simp [hu0]
        have hgk : gk = c.length + 1 := HM.out.symm
        clear hu0
        go_wp2_with fail
        refine (drawn_any _ _).mono ?_
        rintro e X1 ⟨⟨v1, rfl⟩, hw⟩
        rw [hw]
        clear hw
        go_wp2_with fail
        refine (drawn_any _ _).mono ?_
        rintro e X1 ⟨⟨v2, rfl⟩, hw⟩
        rw [hw]
        clear hw
        by_cases hv : v1 < v2
        · go_wp2_with fail
          refine (lift_seen HX.out.1 HX.out.2.1 HX.out.2.2.2 (HSum.out _ _ _ _ HX.out.2.2.2)).mono ?_
          rintro e X2 ⟨rfl, ⟨L4, a4, d4, h4, l4, s4⟩, t4⟩
          have H4 : Hid (Things X2 b k g' cap' L4 ∧ L4.length = n + 1 ∧ AddF w X2 b k g ∧ Seen (gt L4) (n + 1) n (P ++ n :: Q) (fun x => (gt L x).long + (if x = n then lg else 0)) c a4 d4) := ⟨h4, l4, HX.out.2.2.1.touch HB.out.1 HB.out.2 (World.block_lt_of_cell? _ _ HX.out.1.cell) t4, s4⟩
          clear h4 l4 s4 t4 HX
          obtain ⟨k0, kc⟩ := HUp.out _ _ _ _ _ H4.out.1 H4.out.2.1 H4.out.2.2.2
          go_wp2_with fail
          go_roundg c.length
          case measure => omega
          case rel => exact ⟨c, a4, d4, L4, _, rfl, Eq.refl _, Eq.refl _, H4.out⟩
        · go_wp2_with fail
          go_end0
          exact ⟨rfl, HFx.out _ _ _ _ _ HX.out.1 HX.out.2.1 HX.out.2.2.1 HX.out.2.2.2⟩
  · have HFi : Hid (Calls Tryz.prog 96 #[rP b k, iV (d.root : Int)] W1 fun e w' => e = .returned (iV (d.first : Int)) ∧ w' = W1) := first_any H1.out.1 d i (by rw [HE.out.1]; exact HU.out.rep) (fun x hx => by rw [HE.out.2]; have := HU.out.fits x hx; exact ⟨by omega, this.2⟩) (ne_nil_of_root hd0)
    have hfl : d.first < L1.length := by
      have := HU.out.ult
      rw [if_neg hd0] at this
      rw [HE.out.2]
      omega
    have HHg : Hid (Calls Tryz.prog 95 #[rP b k, iV (d.first : Int), iV 0, iV (n : Int)] W1 fun e w' => e = .returned (.tuple #[]) ∧ Things w' b k g' cap' (hangL L1 d.first 0 n) ∧ Touch (· = g') W1 w') := hang_any H1.out.1 d.first 0 n hfl (by omega) (by rw [HE.out.2]; omega)
    obtain ⟨L2, hL2⟩ : ∃ l, Hid (l = hangL L1 d.first 0 n) := ⟨_, Eq.refl _⟩
    have HL2' : Hid (gt L2 = hangA (gt L) (if d.root = 0 then i else d.first) (if d.root = 0 then 1 else 0) n ∧ L2.length = n + 1) := by
      rw [hL2.out, if_neg hd0, if_neg hd0, gt_hangL hfl (by rw [HE.out.2]; omega), HE.out.1, hangL_len]
      exact ⟨rfl, HE.out.2⟩
    rw [← hL2.out] at HHg
    have hdd : ((d.root : Int) != 0) = true := by simp [hd0]
    clear hL2 hu' hs' hfl
    go_wp2_with fail
    refine HFi.out.mono ?_
    rintro e W9 ⟨rfl, hw9⟩
    rw [hw9]
    clear hw9 HFi
    go_wp2_with fail
    refine HHg.out.mono ?_
    rintro e W2 ⟨rfl, hW2, t2⟩
    have HT2 : Hid (Things W2 b k g' cap' L2 ∧ AddF w W2 b k g) := ⟨hW2, H1.out.2.touch HB.out.1 HB.out.2 (World.block_lt_of_cell? _ _ H1.out.1.cell) t2⟩
    clear hW2 t2 HHg q2 hc hdd
    have HL2 : Hid (gt L2 = hangA (gt L) (if d.root = 0 then i else d.first) (if d.root = 0 then 1 else 0) n ∧ L2.length = n + 1) := HL2'
    have hnn : n ∉ P ++ Q := by rw [← HU.out.flat]; exact (fresh_of HOk.out.1).nl
    have hn0 : (gt L n).long = 0 := by rw [HOk.out.1.out n (Nat.le_refl _)]
    have HSum : Hid (∀ (B : Nat → Th) (c : List Fr) (a d' : Tr), Seen B (n + 1) n (P ++ n :: Q) (fun x => (gt L x).long + (if x = n then lg else 0)) c a d' → (plug c (.node a n d')).sum B ≤ 1152921504606846976) := fun B c a d' hS => by
      rw [sum_seen hS HU.out.flat hn0 hnn]
      exact HOk.out.2.1
    have h1n : 1 ≤ n := HOk.out.1.n0
    have hsn := Tr.sum_nn HOk.out.1.long t
    have hbd := HOk.out.2.1
    have hA1n : (gt L2 n).long = 0 := by
      rw [HL2.out.1]
      obtain ⟨f1, f2, f3⟩ := hang_facts (s := (if d.root = 0 then 1 else 0)) (fresh_of HOk.out.1) (show (if d.root = 0 then i else d.first) ≠ n from by have := HU.out.ult; omega)
      rw [f2]
    have hSg : Seen (growA (gt L2) n (n :: ups c1) lg) (n + 1) n (P ++ n :: Q) (fun x => (gt L x).long + (if x = n then lg else 0)) c1 .nil .nil := by rw [HL2.out.1]; exact HU.out.seen
    have hRg : Rep (gt L2) 0 (plug c1 (.node .nil n .nil)) := by rw [HL2.out.1]; exact HU.out.hung
    obtain ⟨k1, k2, k3, k4, k5⟩ := grow_asks hRg hSg (HSum.out _ _ _ _ hSg) hl (by omega) hA1n
    have HGr : Hid (Calls Tryz.prog 53 #[rP b k, iV (n : Int), iV lg] W2 fun e w' => e = .returned (.tuple #[]) ∧ (∃ L', Things w' b k g' cap' L' ∧ L'.length = L2.length ∧ gt L' = growA (gt L2) n (n :: ups c1) lg) ∧ Touch (· = g') W2 w') := grow_any HT2.out.1 n (ups c1) lg (by rw [HL2.out.2]; omega) (by omega) (fun x hx => by rw [HL2.out.2]; exact k1 x hx) k2 k3 k4 k5
    have HSg : Hid (Seen (growA (gt L2) n (n :: ups c1) lg) (n + 1) n (P ++ n :: Q) (fun x => (gt L x).long + (if x = n then lg else 0)) c1 .nil .nil) := hSg
    clear k1 k2 k3 k4 k5 hRg hSg hA1n hnn hn0 hsn hbd
    go_wp2_with fail
    refine HGr.out.mono ?_
    rintro e W3 ⟨rfl, ⟨L3, h3, hl3, e3⟩, t3⟩
    have H3 : Hid (Things W3 b k g' cap' L3 ∧ L3.length = n + 1 ∧ AddF w W3 b k g ∧ Seen (gt L3) (n + 1) n (P ++ n :: Q) (fun x => (gt L x).long + (if x = n then lg else 0)) c1 .nil .nil) := ⟨h3, by rw [hl3]; exact HL2.out.2, HT2.out.2.touch HB.out.1 HB.out.2 (World.block_lt_of_cell? _ _ HT2.out.1.cell) t3, by rw [e3]; exact HSg.out⟩
    clear h3 hl3 e3 t3 HGr HSg HT2 HL2 HL2'
    have HFx : Hid (∀ (wx : World) (Lx : List Th) (c : List Fr) (a d' : Tr), Things wx b k g' cap' Lx → Lx.length = n + 1 → AddF w wx b k g → Seen (gt Lx) (n + 1) n (P ++ n :: Q) (fun x => (gt L x).long + (if x = n then lg else 0)) c a d' → (∃ g' cap' L' t' P Q, (g' = g ∨ w.heap.size ≤ g') ∧ Things wx b k g' cap' L' ∧ L'.length = L.length + 1 ∧ RowOk (gt L') (L.length + 1) t' ∧ t.flat = P ++ Q ∧ t'.flat = P ++ L.length :: Q ∧ ((i = 0 ∧ P = []) ∨ (i ≠ 0 ∧ ∃ P', P = P' ++ [i])) ∧ ∀ x, (gt L' x).long = (gt L x).long + (if x = L.length then lg else 0)) ∧ AddF w wx b k g) := fun wx Lx c a d' q1 q2 q3 q4 => by
      rw [← hn.out]
      exact ⟨⟨g', cap', Lx, _, P, Q, HB.out.2, q1, q2, q4.ok, HU.out.flat, q4.flat, HU.out.behind, q4.long⟩, q3⟩
    have HUp : Hid (∀ (wx : World) (Lx : List Th) (c : List Fr) (a d' : Tr), Things wx b k g' cap' Lx → Lx.length = n + 1 → Seen (gt Lx) (n + 1) n (P ++ n :: Q) (fun x => (gt L x).long + (if x = n then lg else 0)) c a d' → wx.cell? ⟨g', n * 5, none⟩ = some (iV (par c : Int)) ∧ wx.cell? ⟨b, k, none⟩ = some (.slice (some ⟨g', 0, none⟩) (n + 1) cap')) := fun wx Lx c a d' q1 q2 q4 => by
      have hnl : n < Lx.length := by omega
      have q0 := (q1.th n hnl).c0
      rw [← gt_of hnl] at q0
      have := ((rep_plug _ _ _).1 q4.ok.rep).2.1
      rw [this] at q0
      have hc := q1.cell
      rw [q2] at hc
      exact ⟨q0, hc⟩
    have ln : (n : Int) < ((n + 1 : Nat) : Int) := by omega
    have ln' : (n : Int) < (n : Int) + 1 := by omega
    have ln0 : (0 : Int) ≤ (n : Int) := by omega
    obtain ⟨k0, kc⟩ := HUp.out _ _ _ _ _ H3.out.1 H3.out.2.1 H3.out.2.2.2
    go_wp2_with fail
    clear k0 kc
    go_loopg [8] c1.length (fun gk s8 wx => ∃ (c : List Fr) (a d' : Tr) (Lx : List Th) (up : Nat), s8 = iV (up : Int) ∧ Hid (up = par c) ∧ Hid (c.length = gk) ∧ Hid (Things wx b k g' cap' Lx ∧ Lx.length = n + 1 ∧ AddF w wx b k g ∧ Seen (gt Lx) (n + 1) n (P ++ n :: Q) (fun x => (gt L x).long + (if x = n then lg else 0)) c a d'))
    case atStart => exact ⟨c1, .nil, .nil, L3, _, rfl, Eq.refl _, Eq.refl _, H3.out⟩
    case round =>
      obtain ⟨c, a, d', Lx, up, rfl, hup, HM, HX⟩ := hrel
      obtain ⟨X0, hX0⟩ : ∃ X, X = wr := ⟨_, rfl⟩
      subst hX0
      cases c with
      | nil =>
        have e0 : up = 0 := hup.out
        subst e0
        go_wp2_with fail
        go_end0
        exact ⟨rfl, HFx.out _ _ _ _ _ HX.out.1 HX.out.2.1 HX.out.2.2.1 HX.out.2.2.2⟩
      | cons f c =>
        have hu0 : up ≠ 0 := by
          rw [hup.out]
          have : par (f :: c) ∈ (plug (f :: c) (.node a n d')).flat := by
            rw [flat_plug]
            rcases List.mem_append.1 (par_mem (c := f :: c) (by simp)) with h9 | h9 <;> simp [h9]
          exact fun e => HX.out.2.2.2.zero (e ▸ this)
        have e0 : ((up : Int) != 0) = true := by simp [hu0]
        have hgk : gk = c.length + 1 := HM.out.symm
        clear hu0
        go_wp2_with fail
        refine (drawn_any _ _).mono ?_
        rintro e X1 ⟨⟨v1, rfl⟩, hw⟩
        rw [hw]
        clear hw
        go_wp2_with fail
        refine (drawn_any _ _).mono ?_
        rintro e X1 ⟨⟨v2, rfl⟩, hw⟩
        rw [hw]
        clear hw
        by_cases hv : v1 < v2
        · go_wp2_with fail
          refine (lift_seen HX.out.1 HX.out.2.1 HX.out.2.2.2 (HSum.out _ _ _ _ HX.out.2.2.2)).mono ?_
          rintro e X2 ⟨rfl, ⟨L4, a4, d4, h4, l4, s4⟩, t4⟩
          have H4 : Hid (Things X2 b k g' cap' L4 ∧ L4.length = n + 1 ∧ AddF w X2 b k g ∧ Seen (gt L4) (n + 1) n (P ++ n :: Q) (fun x => (gt L x).long + (if x = n then lg else 0)) c a4 d4) := ⟨h4, l4, HX.out.2.2.1.touch HB.out.1 HB.out.2 (World.block_lt_of_cell? _ _ HX.out.1.cell) t4, s4⟩
          clear h4 l4 s4 t4 HX
          obtain ⟨k0, kc⟩ := HUp.out _ _ _ _ _ H4.out.1 H4.out.2.1 H4.out.2.2.2
          go_wp2_with fail
          go_roundg c.length
          case measure => omega
          case rel => exact ⟨c, a4, d4, L4, _, rfl, Eq.refl _, Eq.refl _, H4.out⟩
        · go_wp2_with fail
          go_end0
          exact ⟨rfl, HFx.out _ _ _ _ _ HX.out.1 HX.out.2.1 HX.out.2.2.1 HX.out.2.2.2⟩
end Go.Proofs.YtnilikomoapcaaaGreat
