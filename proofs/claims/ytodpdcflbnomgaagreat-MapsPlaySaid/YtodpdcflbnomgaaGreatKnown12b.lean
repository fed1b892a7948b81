/- quirelaw12.known: the walk. -/
import Derived.Test.YtodpdcflbnomgaaGreatPart24
namespace Go.Proofs.YtodpdcflbnomgaaGreat
open Go.RowKit Go.Maps
set_option linter.unusedVariables false
set_option linter.unusedSimpArgs false
set_option maxRecDepth 100000

/-- The one entry of a view that lies. -/
theorem et_one {w : World} {S : Nat → Prop} {n : Nat} {v : Value} {e : Et} (h : EtAt w S (n + 1) v [e]) : ∃ b o cap ks, v = .slice (some ⟨b, o, none⟩) 1 cap ∧ EtAt w S n (Sw.val ks) e.kids ∧ (∀ W : World, W.heap[b]? = w.heap[b]? → W.cell? ⟨b, o, none⟩ = some (.string e.ky) ∧ W.cell? ⟨b, o + 1, none⟩ = some (.int .i64 e.v.k) ∧ W.cell? ⟨b, o + 2, none⟩ = some (.int .i64 e.v.n) ∧ W.cell? ⟨b, o + 3, none⟩ = some (.float .f64 e.v.f) ∧ W.cell? ⟨b, o + 4, none⟩ = some (.string e.v.s) ∧ W.cell? ⟨b, o + 5, none⟩ = some ks.val) ∧ S b ∧ b < w.heap.size := by
  obtain ⟨raws, ⟨ao, cap, e1, h1, h2, h3, h4⟩, hl, hr⟩ := h
  have hl1 : raws.length = 1 := hl
  have hne : raws ≠ [] := by rintro rfl; simp at hl1
  rcases h4 with h4 | ⟨b, o, e2, hS, hc⟩
  · exact absurd h4 hne
  · obtain ⟨r, rfl⟩ : ∃ r, raws = [r] := by
      cases raws with
      | nil => exact absurd rfl hne
      | cons r l =>
        cases l with
        | nil => exact ⟨r, rfl⟩
        | cons r2 l2 => simp at hl1
    obtain ⟨q1, q2, q3⟩ := hr 0 (by simp) (by simp)
    simp only [List.getElem_cons_zero] at q1 q2 q3
    have hlt : b < w.heap.size := World.block_lt_of_cell? _ _ (hc 0 _ rfl)
    refine ⟨b, o, cap, r.ks, by rw [e1, e2]; rfl, q3, fun W hW => ?_, hS, hlt⟩
    have hcW : ∀ j u, (cellsQ [r])[j]? = some u → W.cell? ⟨b, o + j, none⟩ = some u := fun j u hu => by
      rw [World.cell?_of_block hW]; exact hc j u hu
    rw [← q1, ← q2]
    exact ⟨hcW 0 _ rfl, hcW 1 _ rfl, hcW 2 _ rfl, hcW 3 _ rfl, hcW 4 _ rfl, hcW 5 _ rfl⟩
/-- The second one of two. -/
theorem et_two {w : World} {S : Nat → Prop} {n : Nat} {v : Value} {e0 e : Et} (h : EtAt w S (n + 1) v [e0, e]) : ∃ b o cap ks, v = .slice (some ⟨b, o, none⟩) 2 cap ∧ EtAt w S n (Sw.val ks) e.kids ∧ (∀ W : World, W.heap[b]? = w.heap[b]? → W.cell? ⟨b, o + 6, none⟩ = some (.string e.ky) ∧ W.cell? ⟨b, o + 7, none⟩ = some (.int .i64 e.v.k) ∧ W.cell? ⟨b, o + 11, none⟩ = some ks.val) ∧ b < w.heap.size := by
  obtain ⟨raws, ⟨ao, cap, e1, h1, h2, h3, h4⟩, hl, hr⟩ := h
  have hl1 : raws.length = 2 := hl
  have hne : raws ≠ [] := by rintro rfl; simp at hl1
  rcases h4 with h4 | ⟨b, o, e2, hS, hc⟩
  · exact absurd h4 hne
  · obtain ⟨r0, r, rfl⟩ : ∃ r0 r, raws = [r0, r] := by
      cases raws with
      | nil => exact absurd rfl hne
      | cons r0 l =>
        cases l with
        | nil => simp at hl1
        | cons r l2 =>
          cases l2 with
          | nil => exact ⟨r0, r, rfl⟩
          | cons r3 l3 => simp at hl1
    obtain ⟨q1, q2, q3⟩ := hr 1 (by simp) (by simp)
    simp only [List.getElem_cons_zero, List.getElem_cons_succ] at q1 q2 q3
    have hlt : b < w.heap.size := World.block_lt_of_cell? _ _ (hc 0 _ rfl)
    refine ⟨b, o, cap, r.ks, by rw [e1, e2]; rfl, q3, fun W hW => ?_, hlt⟩
    have hcW : ∀ j u, (cellsQ [r0, r])[j]? = some u → W.cell? ⟨b, o + j, none⟩ = some u := fun j u hu => by
      rw [World.cell?_of_block hW]; exact hc j u hu
    rw [← q1, ← q2]
    exact ⟨hcW 6 _ rfl, hcW 7 _ rfl, hcW 11 _ rfl⟩
abbrev oneBox : Obj := .cells #[.int .i64 2, .int .i64 1, .float .f64 0, .string ⟨#[]⟩] 37
theorem oneBox_cells {W : World} {b : Nat} (h : W.heap[b]? = some oneBox) : W.cell? ⟨b, 0, none⟩ = some (.int .i64 2) ∧ W.cell? ⟨b, 1, none⟩ = some (.int .i64 1) ∧ W.cell? ⟨b, 2, none⟩ = some (.float .f64 0) ∧ W.cell? ⟨b, 3, none⟩ = some (.string ⟨#[]⟩) :=
  ⟨by rw [cell_of_block h]; rfl, by rw [cell_of_block h]; rfl, by rw [cell_of_block h]; rfl, by rw [cell_of_block h]; rfl⟩
theorem run_build_rg (W : World) : (Instr.buildSlice 29 1 #[(0, rgV ⟨1, 2, 3⟩)]).run Tryz.prog W = .ok (.slice (some ⟨W.heap.size, 0, none⟩) 1 1) (W.alloc (rgO ⟨1, 2, 3⟩)) := by kernel_rfl
theorem run_build_str (b : ByteArray) (W : World) : (Instr.buildSlice 42 1 #[(0, .string b)]).run Tryz.prog W = .ok (.slice (some ⟨W.heap.size, 0, none⟩) 1 1) (W.alloc (.cells #[.string b] 9)) := by kernel_rfl
theorem strs_one (W : World) (k : Key) : StrsAt (W.alloc (.cells #[.string (strK k)] 9)) (.slice (some ⟨W.heap.size, 0, none⟩) 1 1) [k] := by
  refine ⟨_, 1, rfl, fun i hi => ⟨W.heap.size, 0, rfl, fun W2 t => ?_⟩⟩
  have : i = 0 := by simpa using hi
  subst this
  have hb := heap_alloc_new W (.cells #[.string (strK k)] 9)
  have := (t.block _ (lt_of_heap hb) id).trans hb
  rw [cell_of_block this]; rfl
set_option maxHeartbeats 16000000 in
theorem known_any (w : World) : Calls Tryz.prog 4 #[] w fun e w' => e = .returned (.bool true) ∧ Touch (fun _ => False) w w' := by
  have HNew : Hid (Calls Tryz.prog 6 #[] w fun e w' => ∃ g, e = .returned (.pointer (some ⟨g, 0, none⟩)) ∧ Lv w (fun _ => False) w' g newS []) := lv_new w
  have hz : ∀ (ck st pc pk : Int) (ky : ByteArray) (v : V), ∃ u, Hid (u = (setO ck st pc pk ky v).val) := fun _ _ _ _ _ _ => ⟨_, Eq.refl _⟩
  have hS : ∀ (ck st pc pk : Int) (ky : ByteArray) (v : V) (u : Value), Hid (u = (setO ck st pc pk ky v).val) → Hid (∀ W, Calls Tryz.prog 16 #[.int .u64 ck, .int .u64 st, idV pc pk, .string ky, .agg #[.int .i64 v.k, .int .i64 v.n, .float .f64 v.f, .string v.s]] W fun e w' => e = .returned u ∧ Touch (fun _ => False) W w') := fun ck st pc pk ky v u hu W => by
    have := setO_any ck st pc pk ky v W
    rw [← hu.out] at this; exact this
  obtain ⟨u1, hu1⟩ := hz 1 2 0 0 kK oneV
  obtain ⟨u2, hu2⟩ := hz 2 3 0 0 kK nulV
  obtain ⟨u2b, hu2b⟩ := hz 2 3 0 0 kK oneV
  obtain ⟨u3, hu3⟩ := hz 3 1 1 1 kX oneV
  obtain ⟨u4, hu4⟩ := hz 4 1 0 0 kM mapV
  obtain ⟨u5, hu5⟩ := hz 5 1 1 4 kX oneV
  have S1 := hS _ _ _ _ _ _ _ hu1
  have S2 := hS _ _ _ _ _ _ _ hu2
  have S2b := hS _ _ _ _ _ _ _ hu2b
  have S3 := hS _ _ _ _ _ _ _ hu3
  have S4 := hS _ _ _ _ _ _ _ hu4
  have S5 := hS _ _ _ _ _ _ _ hu5
  simp only [oneV, nulV, mapV] at S1 S2 S2b S3 S4 S5
  clear hz hS
  go_enter Tryz.func4, Tryz.ntmps4
  go_wp2_with fail
  refine HNew.out.mono ?_
  rintro e w1 ⟨g, rfl, hl1⟩
  have HL1 : Hid (Lv w (fun _ => False) w1 g newS []) := hl1
  clear hl1 HNew
  go_upto_region 4 with fail
  refine wp_region_lit ?_
  iterate 2 (refine wpList_plain rfl fun K hK => ?_; go_simp; refine hK _ _ ?_; clear hK K)
  refine wpList_store_mid rfl 37 (.tmp 2) (.tmp 15) rfl w1.heap.size 0 #[.int .i64 2, .int .i64 1, .float .f64 0, .string ⟨#[]⟩] rfl rfl (there_ofS (heap_alloc_new w1 (.cells #[.int .i64 0, .int .i64 0, .float .f64 0, .string ⟨#[]⟩] 37)) 0 4 (by decide)) (by kernel_rfl) (by kernel_rfl) ?_
  simp only [Act.put]
  obtain ⟨A, hA⟩ : ∃ A, Hid (A = w1.heap.size) := ⟨_, Eq.refl _⟩
  obtain ⟨W1, hW1⟩ : ∃ W, Hid (W = (w1.alloc (.cells #[.int .i64 0, .int .i64 0, .float .f64 0, .string ⟨#[]⟩] 37)).setCells w1.heap.size 0 [.int .i64 2, .int .i64 1, .float .f64 0, .string ⟨#[]⟩]) := ⟨_, Eq.refl _⟩
  have HX1 : Hid (Lv w (fun k => k = A) W1 g newS [] ∧ W1.heap[A]? = some oneBox) := by
    have t1 : Touch (fun _ => False) w1 W1 := by rw [hW1.out]; exact ((Touch.refl _ _).alloc _).stores (Nat.le_refl _) 0 _
    have hb : W1.heap[A]? = some oneBox := by
      rw [hW1.out, hA.out, cells_storedS (heap_alloc_new w1 (.cells #[.int .i64 0, .int .i64 0, .float .f64 0, .string ⟨#[]⟩] 37))]; kernel_rfl
    obtain ⟨F, hF⟩ := HL1.out.box t1 (A := A) (by rw [hA.out]; exact Nat.le_refl _) (lt_of_heap hb)
    exact ⟨⟨F, hF.at_, fun k hk => ⟨(hF.own k hk).1, fun e => (hF.own k hk).2 (.inr e)⟩, fun k hk => hF.old k (.inr hk), hF.touch, hF.has, hF.ord, hF.chain, hF.apart, hF.cnt, hF.len⟩, hb⟩
  rw [← hW1.out, ← hA.out]
  clear hW1 hA HL1
  obtain ⟨a0, a1, a2, a3⟩ := oneBox_cells HX1.out.2
  go_wp2_with fail
  refine (S1.out _).mono ?_
  rintro e w2 ⟨rfl, t2⟩
  have HX2 : Hid (Lv w (fun k => k = A) w2 g newS [] ∧ w2.heap[A]? = some oneBox) := ⟨HX1.out.1.on t2, (t2.block A (lt_of_heap HX1.out.2) id).trans HX1.out.2⟩
  clear t2 a0 a1 a2 a3 HX1
  have C1 := lv_set HX2.out.1 ko1 f1 (by decide) (by decide) k_ok1
  rw [show ko1.val = u1 from hu1.out.symm] at C1
  have C1h : Hid (Calls Tryz.prog 15 #[.pointer (some ⟨g, 0, none⟩), u1] w2 fun e w' => e = .returned (.bool true) ∧ Lv w (fun k => k = A) w' g (setS newS ko1) ([] ++ [ko1]) ∧ Kept (fun k => k = A) w2 w') := C1
  clear C1
  go_wp2_with fail
  refine C1h.out.mono ?_
  rintro e w3 ⟨rfl, hl3, hk3⟩
  have HX3 : Hid (Lv w (fun k => k = A) w3 g (setS newS ko1) [ko1] ∧ w3.heap[A]? = some oneBox) := ⟨hl3, (hk3 A rfl).trans HX2.out.2⟩
  clear hl3 hk3 C1h HX2
  go_wp2_with fail
  refine (S2.out _).mono ?_
  rintro e w4 ⟨rfl, t4⟩
  have HX4 : Hid (Lv w (fun k => k = A) w4 g (setS newS ko1) [ko1] ∧ w4.heap[A]? = some oneBox) := ⟨HX3.out.1.on t4, (t4.block A (lt_of_heap HX3.out.2) id).trans HX3.out.2⟩
  clear t4 HX3
  obtain ⟨s1, hs1⟩ : ∃ s, Hid (s = setS newS ko1) := ⟨_, Eq.refl _⟩
  rw [← hs1.out] at HX4
  have C2 := lv_set HX4.out.1 ko2 f2 (by decide) (by decide) (k_ok2 HX4.out.1.hasL)
  rw [show ko2.val = u2 from hu2.out.symm] at C2
  have C2h : Hid (Calls Tryz.prog 15 #[.pointer (some ⟨g, 0, none⟩), u2] w4 fun e w' => e = .returned (.bool true) ∧ Lv w (fun k => k = A) w' g (setS s1 ko2) ([ko1] ++ [ko2]) ∧ Kept (fun k => k = A) w4 w') := C2
  clear C2
  go_wp2_with fail
  refine C2h.out.mono ?_
  rintro e w5 ⟨rfl, hl5, hk5⟩
  obtain ⟨s2, hs2⟩ : ∃ s, Hid (s = setS s1 ko2) := ⟨_, Eq.refl _⟩
  rw [← hs2.out] at hl5
  have hid2 : s2.hid = [] := by rw [hs2.out, hid_set, hs1.out, hid_set]; rfl
  have HX5 : Hid (Lv w (fun k => k = A) w5 g s2 [ko1, ko2] ∧ w5.heap[A]? = some oneBox ∧ s2.hid = []) := ⟨hl5, (hk5 A rfl).trans HX4.out.2, hid2⟩
  clear hl5 hk5 C2h HX4 hid2 hs2 hs1
  obtain ⟨a0, a1, a2, a3⟩ := oneBox_cells HX5.out.2.1
  go_wp2_with fail
  refine (S2b.out _).mono ?_
  rintro e w6 ⟨rfl, t6⟩
  have HX6 : Hid (Lv w (fun k => k = A) w6 g s2 [ko1, ko2] ∧ w6.heap[A]? = some oneBox ∧ s2.hid = []) := ⟨HX5.out.1.on t6, (t6.block A (lt_of_heap HX5.out.2.1) id).trans HX5.out.2.1, HX5.out.2.2⟩
  clear t6 a0 a1 a2 a3 HX5
  have C3 := lv_setNo HX6.out.1 ko2b f2b (k_no2 HX6.out.1.hasL)
  rw [show ko2b.val = u2b from hu2b.out.symm] at C3
  have C3h : Hid (Calls Tryz.prog 15 #[.pointer (some ⟨g, 0, none⟩), u2b] w6 fun e w' => e = .returned (.bool false) ∧ Touch (fun _ => False) w6 w') := C3
  clear C3
  go_wp2_with fail
  refine C3h.out.mono ?_
  rintro e w7 ⟨rfl, t7⟩
  have HX7 : Hid (Lv w (fun k => k = A) w7 g s2 [ko1, ko2] ∧ w7.heap[A]? = some oneBox ∧ s2.hid = []) := ⟨HX6.out.1.on t7, (t7.block A (lt_of_heap HX6.out.2.1) id).trans HX6.out.2.1, HX6.out.2.2⟩
  clear t7 C3h HX6
  obtain ⟨a0, a1, a2, a3⟩ := oneBox_cells HX7.out.2.1
  go_wp2_with fail
  refine (S3.out _).mono ?_
  rintro e w8 ⟨rfl, t8⟩
  have HX8 : Hid (Lv w (fun k => k = A) w8 g s2 [ko1, ko2] ∧ w8.heap[A]? = some oneBox ∧ s2.hid = []) := ⟨HX7.out.1.on t8, (t8.block A (lt_of_heap HX7.out.2.1) id).trans HX7.out.2.1, HX7.out.2.2⟩
  clear t8 a0 a1 a2 a3 HX7
  have C4 := lv_setNo HX8.out.1 ko3 f3 (k_no3 HX8.out.1.hasL)
  rw [show ko3.val = u3 from hu3.out.symm] at C4
  have C4h : Hid (Calls Tryz.prog 15 #[.pointer (some ⟨g, 0, none⟩), u3] w8 fun e w' => e = .returned (.bool false) ∧ Touch (fun _ => False) w8 w') := C4
  clear C4
  go_wp2_with fail
  refine C4h.out.mono ?_
  rintro e w9 ⟨rfl, t9⟩
  have HX9 : Hid (Lv w (fun k => k = A) w9 g s2 [ko1, ko2] ∧ w9.heap[A]? = some oneBox ∧ s2.hid = []) := ⟨HX8.out.1.on t9, (t9.block A (lt_of_heap HX8.out.2.1) id).trans HX8.out.2.1, HX8.out.2.2⟩
  clear t9 C4h HX8 S1 S2 S2b S3
  have C5 := lv_view HX9.out.1
  rw [show [ko1, ko2].length + 1 = 3 from rfl, k_view2 HX9.out.1.hasL HX9.out.2.2] at C5
  have C5h : Hid (Calls Tryz.prog 21 #[.pointer (some ⟨g, 0, none⟩)] w9 fun e w' => ∃ v, e = .returned v ∧ EtAt w' (fun q => w9.heap.size ≤ q) 3 v [] ∧ Touch (fun _ => False) w9 w') := C5
  clear C5
  go_wp2_with fail
  refine C5h.out.mono ?_
  rintro e w10 ⟨va, rfl, hea, t10⟩
  obtain ⟨aa, acap, rfl⟩ := hea.shape
  simp only [List.length_nil]
  have HX10 : Hid (Lv w (fun k => k = A) w10 g s2 [ko1, ko2] ∧ w10.heap[A]? = some oneBox ∧ s2.hid = []) := ⟨HX9.out.1.on t10, (t10.block A (lt_of_heap HX9.out.2.1) id).trans HX9.out.2.1, HX9.out.2.2⟩
  clear t10 C5h HX9 hea
  have hbr := run_build_rg w10
  have C6 := lv_hide (HX10.out.1.on ((Touch.refl _ w10).alloc (rgO ⟨1, 2, 3⟩))) [⟨1, 2, 3⟩] (.slice (some ⟨w10.heap.size, 0, none⟩) 1 1) ⟨_, 1, rfl, (fun h => by cases h), Nat.le_refl _, by omega, LiesR.new w10 ⟨1, 2, 3⟩⟩ (by decide)
  have C6h : Hid (Calls Tryz.prog 7 #[.pointer (some ⟨g, 0, none⟩), .slice (some ⟨w10.heap.size, 0, none⟩) 1 1] (w10.alloc (rgO ⟨1, 2, 3⟩)) fun e w' => e = .returned (.tuple #[]) ∧ ∃ out, Form (tns out) (turnOf (tns [⟨1, 2, 3⟩])) ∧ Lv w (fun k => k = A) w' g { s2 with hid := out } [ko1, ko2] ∧ Kept (fun k => k = A) (w10.alloc (rgO ⟨1, 2, 3⟩)) w') := C6
  clear C6
  go_wp2_with fail
  refine C6h.out.mono ?_
  rintro e w11 ⟨rfl, out, hfm, hl11, hk11⟩
  obtain ⟨s3, hs3⟩ : ∃ s, s = { s2 with hid := out } := ⟨_, rfl⟩
  rw [← hs3] at hl11
  have hsh3 : ∀ c k, shS s3 c k = !hasB [⟨1, 2, 3⟩] c k := fun c k => by unfold shS; rw [hs3, hasB_clean hfm]
  have HX11 : Hid (Lv w (fun k => k = A) w11 g s3 [ko1, ko2] ∧ w11.heap[A]? = some oneBox ∧ ∀ c k, shS s3 c k = !hasB [⟨1, 2, 3⟩] c k) := ⟨hl11, ((hk11 A rfl).trans ((Touch.refl (fun _ => False) w10).alloc (rgO ⟨1, 2, 3⟩)|>.block A (lt_of_heap HX10.out.2.1) id)).trans HX10.out.2.1, hsh3⟩
  clear hfm hl11 hk11 hs3 hsh3 C6h hbr HX10
  have C7 := lv_view HX11.out.1
  rw [show [ko1, ko2].length + 1 = 3 from rfl, k_view3 HX11.out.1.hasL HX11.out.2.2] at C7
  have C7h : Hid (Calls Tryz.prog 21 #[.pointer (some ⟨g, 0, none⟩)] w11 fun e w' => ∃ v, e = .returned v ∧ EtAt w' (fun q => w11.heap.size ≤ q) 3 v [.mk kK oneV []] ∧ Touch (fun _ => False) w11 w') := C7
  clear C7
  go_wp2_with fail
  refine C7h.out.mono ?_
  rintro e w12 ⟨vb, rfl, heb, t12⟩
  obtain ⟨bb, bo, bcap, bks, rfl, -, hbc, hbS, hbl⟩ := et_one heb
  have HX12 : Hid (Lv w (fun k => k = A ∨ (w11.heap.size ≤ k ∧ k < w12.heap.size)) w12 g s3 [ko1, ko2] ∧ w12.heap[A]? = some oneBox ∧ (∀ c k, shS s3 c k = !hasB [⟨1, 2, 3⟩] c k)) := ⟨HX11.out.1.boxes t12, (t12.block A (lt_of_heap HX11.out.2.1) id).trans HX11.out.2.1, HX11.out.2.2⟩
  obtain ⟨KK, hKK⟩ : ∃ K, Hid (K = fun k => k = A ∨ (w11.heap.size ≤ k ∧ k < w12.heap.size)) := ⟨_, Eq.refl _⟩
  have HKA : Hid (KK A ∧ KK bb) := by rw [hKK.out]; exact ⟨.inl rfl, .inr ⟨hbS, hbl⟩⟩
  rw [← hKK.out] at HX12
  have HBC : Hid (∀ W : World, W.heap[bb]? = w12.heap[bb]? → W.cell? ⟨bb, bo, none⟩ = some (.string kK) ∧ W.cell? ⟨bb, bo + 1, none⟩ = some (.int .i64 2) ∧ W.cell? ⟨bb, bo + 2, none⟩ = some (.int .i64 1) ∧ W.cell? ⟨bb, bo + 3, none⟩ = some (.float .f64 0) ∧ W.cell? ⟨bb, bo + 4, none⟩ = some (.string ⟨#[]⟩)) := fun W hW => by
    have := hbc W hW
    exact ⟨this.1, this.2.1, this.2.2.1, this.2.2.2.1, this.2.2.2.2.1⟩
  clear t12 C7h HX11 heb hbc hbS hbl hKK
  go_wp2_with fail
  refine (S4.out _).mono ?_
  rintro e w13 ⟨rfl, t13⟩
  have HX13 : Hid (Lv w KK w13 g s3 [ko1, ko2] ∧ w13.heap[A]? = some oneBox ∧ (∀ c k, shS s3 c k = !hasB [⟨1, 2, 3⟩] c k) ∧ Kept KK w12 w13) := ⟨HX12.out.1.on t13, (t13.block A (lt_of_heap HX12.out.2.1) id).trans HX12.out.2.1, HX12.out.2.2, HX12.out.1.kept t13⟩
  clear t13 HX12
  have C8 := lv_set HX13.out.1 ko4 f4 (by decide) (by decide) (k_ok4 HX13.out.1.hasL)
  rw [show ko4.val = u4 from hu4.out.symm] at C8
  have C8h : Hid (Calls Tryz.prog 15 #[.pointer (some ⟨g, 0, none⟩), u4] w13 fun e w' => e = .returned (.bool true) ∧ Lv w KK w' g (setS s3 ko4) ([ko1, ko2] ++ [ko4]) ∧ Kept KK w13 w') := C8
  clear C8
  go_wp2_with fail
  refine C8h.out.mono ?_
  rintro e w14 ⟨rfl, hl14, hk14⟩
  have HX14 : Hid (Lv w KK w14 g (setS s3 ko4) [ko1, ko2, ko4] ∧ w14.heap[A]? = some oneBox ∧ (∀ c k, shS (setS s3 ko4) c k = !hasB [⟨1, 2, 3⟩] c k) ∧ Kept KK w12 w14) := ⟨hl14, (hk14 A HKA.out.1).trans HX13.out.2.1, fun c k => by
    have := HX13.out.2.2.1 c k
    unfold shS at this ⊢
    rw [hid_set]; exact this, HX13.out.2.2.2.trans hk14⟩
  clear hl14 hk14 C8h HX13
  obtain ⟨s4, hs4⟩ : ∃ s, Hid (s = setS s3 ko4) := ⟨_, Eq.refl _⟩
  rw [← hs4.out] at HX14
  clear hs4
  obtain ⟨a0, a1, a2, a3⟩ := oneBox_cells HX14.out.2.1
  go_wp2_with fail
  refine (S5.out _).mono ?_
  rintro e w15 ⟨rfl, t15⟩
  have HX15 : Hid (Lv w KK w15 g s4 [ko1, ko2, ko4] ∧ w15.heap[A]? = some oneBox ∧ (∀ c k, shS s4 c k = !hasB [⟨1, 2, 3⟩] c k) ∧ Kept KK w12 w15) := ⟨HX14.out.1.on t15, (t15.block A (lt_of_heap HX14.out.2.1) id).trans HX14.out.2.1, HX14.out.2.2.1, HX14.out.2.2.2.trans (HX14.out.1.kept t15)⟩
  clear t15 a0 a1 a2 a3 HX14
  have C9 := lv_set HX15.out.1 ko5 f5 (by decide) (by decide) (k_ok5 HX15.out.1.hasL)
  rw [show ko5.val = u5 from hu5.out.symm] at C9
  have C9h : Hid (Calls Tryz.prog 15 #[.pointer (some ⟨g, 0, none⟩), u5] w15 fun e w' => e = .returned (.bool true) ∧ Lv w KK w' g (setS s4 ko5) ([ko1, ko2, ko4] ++ [ko5]) ∧ Kept KK w15 w') := C9
  clear C9
  go_wp2_with fail
  refine C9h.out.mono ?_
  rintro e w16 ⟨rfl, hl16, hk16⟩
  have HX16 : Hid (Lv w KK w16 g (setS s4 ko5) [ko1, ko2, ko4, ko5] ∧ w16.heap[A]? = some oneBox ∧ (∀ c k, shS (setS s4 ko5) c k = !hasB [⟨1, 2, 3⟩] c k) ∧ Kept KK w12 w16) := ⟨hl16, (hk16 A HKA.out.1).trans HX15.out.2.1, fun c k => by
    have := HX15.out.2.2.1 c k
    unfold shS at this ⊢
    rw [hid_set]; exact this, HX15.out.2.2.2.trans hk16⟩
  clear hl16 hk16 C9h HX15 S4 S5
  obtain ⟨s5, hs5⟩ : ∃ s, Hid (s = setS s4 ko5) := ⟨_, Eq.refl _⟩
  rw [← hs5.out] at HX16
  clear hs5
  have hbs := run_build_str kM w16
  have C10 := lv_find (HX16.out.1.on ((Touch.refl _ w16).alloc (.cells #[.string kM] 9))) (.slice (some ⟨w16.heap.size, 0, none⟩) 1 1) [[109]] (strs_one w16 [109]) (fun k hk => by rw [List.mem_singleton] at hk; subst hk; decide) (by decide)
  rw [k_find HX16.out.1.hasL HX16.out.2.2.1] at C10
  have C10h : Hid (Calls Tryz.prog 12 #[.pointer (some ⟨g, 0, none⟩), .slice (some ⟨w16.heap.size, 0, none⟩) 1 1] (w16.alloc (.cells #[.string kM] 9)) fun e w' => e = .returned (.tuple #[.agg #[.int .u64 1, .int .u64 4], .bool true]) ∧ Touch (fun _ => False) (w16.alloc (.cells #[.string kM] 9)) w') := C10
  clear C10
  go_wp2_with fail
  refine C10h.out.mono ?_
  rintro e w17 ⟨rfl, t17⟩
  have t17' : Touch (fun _ => False) w16 w17 := ((Touch.refl _ w16).alloc _).trans t17
  have HX17 : Hid (Lv w KK w17 g s5 [ko1, ko2, ko4, ko5] ∧ w17.heap[A]? = some oneBox ∧ (∀ c k, shS s5 c k = !hasB [⟨1, 2, 3⟩] c k) ∧ Kept KK w12 w17) := ⟨HX16.out.1.on t17', (t17'.block A (lt_of_heap HX16.out.2.1) id).trans HX16.out.2.1, HX16.out.2.2.1, HX16.out.2.2.2.trans (HX16.out.1.kept t17')⟩
  clear t17 t17' C10h HX16 hbs
  go_upto_region 11 with fail
  obtain ⟨w18, hw18⟩ : ∃ W, Hid (W = w17.alloc (.cells #[.int .u64 1, .int .u64 4] 34)) := ⟨_, Eq.refl _⟩
  obtain ⟨Z, hZ⟩ : ∃ Z, Hid (Z = w17.heap.size) := ⟨_, Eq.refl _⟩
  rw [← hw18.out, ← hZ.out]
  have HX18 : Hid (Lv w KK w18 g s5 [ko1, ko2, ko4, ko5] ∧ w18.heap[A]? = some oneBox ∧ (∀ c k, shS s5 c k = !hasB [⟨1, 2, 3⟩] c k) ∧ Kept KK w12 w18 ∧ w18.heap[Z]? = some (idO 1 4)) := by
    have t18 : Touch (fun _ => False) w17 w18 := by rw [hw18.out]; exact (Touch.refl _ _).alloc _
    exact ⟨HX17.out.1.on t18, (t18.block A (lt_of_heap HX17.out.2.1) id).trans HX17.out.2.1, HX17.out.2.2.1, HX17.out.2.2.2.trans (HX17.out.1.kept t18), by rw [hw18.out, hZ.out]; exact heap_alloc_new _ _⟩
  clear hw18 hZ HX17
  have C11 := lv_get HX18.out.1 (c := 1) (k := 4) (by unfold U64; decide) (by unfold U64; decide) kX (by decide)
  rw [k_get5x HX18.out.1.hasL HX18.out.2.2.1] at C11
  have C11h : Hid (Calls Tryz.prog 9 #[.pointer (some ⟨g, 0, none⟩), .agg #[.int .u64 1, .int .u64 4], .string kX] w18 fun e w' => e = .returned (.tuple #[(cleanO ko5).val, .bool true]) ∧ Touch (fun _ => False) w18 w') := C11
  clear C11
  obtain ⟨G, hG⟩ : ∃ G, Hid (G = cleanO ko5) := ⟨_, Eq.refl _⟩
  rw [← hG.out] at C11h
  refine wp_region_lit ?_
  iterate 1 (refine wpList_plain rfl fun K hK => ?_; go_simp; refine hK _ _ ?_; clear hK K)
  refine wpList_load_mid rfl 34 (.tmp 7) rfl Z 0 rfl [.int .u64 1, .int .u64 4] _ (rangeAt_id HX18.out.2.2.2.2) Tryz.underlying34 rfl (by kernel_rfl) ?_
  simp only [Act.put, List.setIfInBounds_toArray, List.set_cons_succ, List.set_cons_zero]
  refine wpList_plain rfl fun K hK => ?_
  go_simp
  refine C11h.out.mono ?_
  rintro e w19 ⟨rfl, t19⟩
  refine hK _ _ ?_
  clear hK K
  have HX19 : Hid (Lv w KK w19 g s5 [ko1, ko2, ko4, ko5] ∧ w19.heap[A]? = some oneBox ∧ (∀ c k, shS s5 c k = !hasB [⟨1, 2, 3⟩] c k) ∧ Kept KK w12 w19 ∧ w19.heap[Z]? = some (idO 1 4)) := ⟨HX18.out.1.on t19, (t19.block A (lt_of_heap HX18.out.2.1) id).trans HX18.out.2.1, HX18.out.2.2.1, HX18.out.2.2.2.1.trans (HX18.out.1.kept t19), (t19.block Z (lt_of_heap HX18.out.2.2.2.2) id).trans HX18.out.2.2.2.2⟩
  clear t19 HX18 C11h
  iterate 4 (refine wpList_plain rfl fun K hK => ?_; go_simp; refine hK _ _ ?_; clear hK K)
  refine wpList_store_mid rfl 41 (.tmp 9) (.tmp 74) rfl w19.heap.size 0 G.vals rfl rfl (OpAt.there (o := zeroO) (heap_alloc_new w19 zeroOp) 0 22 (by decide)) (by kernel_rfl) (by kernel_rfl) ?_
  simp only [Act.put]
  have hn := newOpM w19 G
  obtain ⟨X, hX⟩ : ∃ X, Hid (X = w19.heap.size) := ⟨_, Eq.refl _⟩
  obtain ⟨W4, hW4⟩ : ∃ W, Hid (W = (w19.alloc zeroOp).setCells w19.heap.size 0 G.vals.toList) := ⟨_, Eq.refl _⟩
  rw [← hW4.out] at hn ⊢
  rw [← hX.out] at hn ⊢
  have hk5 : G.k = 5 := by rw [hG.out]; rfl
  have HX20 : Hid (Lv w KK W4 g s5 [ko1, ko2, ko4, ko5] ∧ W4.heap[A]? = some oneBox ∧ (∀ c k, shS s5 c k = !hasB [⟨1, 2, 3⟩] c k) ∧ Kept KK w12 W4 ∧ W4.heap[Z]? = some (idO 1 4) ∧ OpAt X G W4) := ⟨HX19.out.1.on hn.1, (hn.1.block A (lt_of_heap HX19.out.2.1) id).trans HX19.out.2.1, HX19.out.2.2.1, HX19.out.2.2.2.1.trans (HX19.out.1.kept hn.1), (hn.1.block Z (lt_of_heap HX19.out.2.2.2.2) id).trans HX19.out.2.2.2.2, hn.2⟩
  clear hX hW4 hn HX19 hG
  iterate 1 (refine wpList_plain rfl fun K hK => ?_; go_simp; refine hK _ _ ?_; clear hK K)
  generalize Value.agg G.vals = gv
  have C12 := lv_view HX20.out.1
  rw [show [ko1, ko2, ko4, ko5].length + 1 = 5 from rfl, k_view5 HX20.out.1.hasL HX20.out.2.2.1] at C12
  have C12h : Hid (Calls Tryz.prog 21 #[.pointer (some ⟨g, 0, none⟩)] W4 fun e w' => ∃ v, e = .returned v ∧ EtAt w' (fun q => W4.heap.size ≤ q) 5 v [.mk kK oneV [], .mk kM mapV [.mk kX oneV []]] ∧ Touch (fun _ => False) W4 w') := C12
  clear C12
  go_wp2_with fail
  refine C12h.out.mono ?_
  rintro e w20 ⟨vc, rfl, hec, t20⟩
  obtain ⟨cb, co, ccap, cks, rfl, hekk, hcc, hcl⟩ := et_two hec
  obtain ⟨kb, ko, kcap, hkv⟩ : ∃ kb ko kcap, cks = ⟨some ⟨kb, ko, none⟩, 1, kcap⟩ := by
    obtain ⟨kb, ko, kcap, kks, hkv, -⟩ := et_one hekk
    obtain ⟨ca, cn, ck⟩ := cks
    simp only [Sw.val, Value.slice.injEq] at hkv
    obtain ⟨rfl, rfl, rfl⟩ := hkv
    exact ⟨kb, ko, _, rfl⟩
  subst hkv
  obtain ⟨e6, e7, e11⟩ := hcc w20 rfl
  have hb20 := HBC.out w20 (((HX20.out.1.kept t20) bb HKA.out.2).trans (HX20.out.2.2.2.1 bb HKA.out.2))
  obtain ⟨b0, b1, b2, b3, b4⟩ := hb20
  have hA20 : w20.heap[A]? = some oneBox := (t20.block A (lt_of_heap HX20.out.2.1) id).trans HX20.out.2.1
  obtain ⟨a0, a1, a2, a3⟩ := oneBox_cells hA20
  have hZ20 : w20.heap[Z]? = some (idO 1 4) := (t20.block Z (lt_of_heap HX20.out.2.2.2.2.1) id).trans HX20.out.2.2.2.2.1
  have z1 : w20.cell? ⟨Z, 1, none⟩ = some (.int .u64 4) := by rw [cell_of_block hZ20]; rfl
  have x1 : w20.cell? ⟨X, 1, none⟩ = some (.int .u64 5) := by rw [(HX20.out.2.2.2.2.2.keep t20).q1, hk5]
  have HT : Hid (Touch (fun _ => False) w w20) := (HX20.out.1.on t20).touch0
  simp only [Et.ky, Et.v, mapV, Sw.val] at e6 e7 e11
  clear hec hekk hcc hA20 hZ20 t20 C12h HX20 HBC HKA hk5
  have heqV : ∀ W, (binOp .eql 37 (.agg #[.int .i64 2, .int .i64 1, .float .f64 0, .string ⟨#[]⟩]) (.agg #[.int .i64 2, .int .i64 1, .float .f64 0, .string ⟨#[]⟩])).run Tryz.prog W = .ok (.bool true) W := fun W => by kernel_rfl
  have hgt : Tryz.prog.eqGuardType Tryz.prog.depth 37 = false := by kernel_rfl
  go_wp2_with fail
  go_quiet (fail)
  go_wp2_with fail
  go_ret
  exact ⟨rfl, HT.out.trans ⟨rfl, rfl, rfl, Nat.le_refl _, fun _ _ _ => rfl⟩⟩
end Go.Proofs.YtodpdcflbnomgaaGreat
