/- quirelaw14.known. -/
import Derived.Test.YtijkekkjiboomaaGreatDoorPart25
import Derived.Test.YtijkekkjiboomaaGreatDoorPart20
import Derived.Test.YtijkekkjiboomaaGreatDoorPart18
namespace Go.Proofs.YtijkekkjiboomaaGreatDoor
open Go.RowKit Go.Maps
set_option linter.unusedVariables false
set_option linter.unusedSimpArgs false
set_option maxRecDepth 100000

abbrev kB : Mk := ⟨⟨#[98, 111, 108, 100]⟩, 1, 1, 0, ⟨#[]⟩⟩
abbrev kRa : Rn := ⟨⟨#[97, 98]⟩, false, vz, [kB]⟩
abbrev kRb : Rn := ⟨⟨#[]⟩, true, ⟨2, 3, 0, ⟨#[]⟩⟩, []⟩
abbrev kEx : En := .mk ⟨#[120]⟩ ⟨0, 0, 0, ⟨#[]⟩⟩ ⟨none, 0, 0⟩ []
abbrev kEm (g : Nat) : En := .mk ⟨#[109]⟩ ⟨5, 0, 0, ⟨#[]⟩⟩ ⟨some ⟨g, 0, none⟩, 1, 1⟩ [kEx]
abbrev kTx (s : ByteArray) : Rn := ⟨s, false, vz, []⟩
abbrev kText : ByteArray := ⟨#[116, 32, 34, 97, 98, 34, 32, 34, 98, 111, 108, 100, 34, 61, 116, 114, 117, 101, 10, 101, 32, 51, 10, 109, 32, 34, 109, 34, 61, 109, 97, 112, 10, 32, 32, 109, 32, 34, 120, 34, 61, 110, 117, 108, 108, 10]⟩
theorem k_viewT (g : Nat) : viewT [kRa, kRb] [kEm g] = kText.data.toList := by kernel_rfl
theorem k_plain : plainT [kRa, kRb] = [97, 98, 239, 191, 188] := by kernel_rfl
theorem k_len : lenL [kRa, kRb] = 3 := by kernel_rfl
theorem k_dfA : dfA [kTx ⟨#[97, 98, 99]⟩] [kTx ⟨#[97, 120, 99]⟩] = 1 := by kernel_rfl
theorem k_dfN : (lenL (dfX [kTx ⟨#[97, 98, 99]⟩] [kTx ⟨#[97, 120, 99]⟩]) : Int) - (dfE [kTx ⟨#[97, 98, 99]⟩] [kTx ⟨#[97, 120, 99]⟩] : Int) = 1 := by kernel_rfl
theorem k_dfL : (dfL [kTx ⟨#[97, 98, 99]⟩] [kTx ⟨#[97, 120, 99]⟩]).map Rn.tx = [⟨#[120]⟩] := by kernel_rfl
theorem k_clean : (cleanP [kTx ⟨#[97]⟩, kTx ⟨#[]⟩, kTx ⟨#[98]⟩]).length = 1 := by kernel_rfl
theorem k_empty (g : Nat) : decide (viewT [kRa, kRb] [kEm g] = viewT [] []) = false := by rw [k_viewT]; kernel_rfl
theorem k_ok (s : ByteArray) (h : (runesOf s.data.toList).isSome = true) : OkL [kTx s] := fun r hr => by
  rw [List.mem_singleton.1 hr]
  exact ⟨⟨fun e => (by cases e), fun _ => ⟨rfl, h⟩⟩, ⟨by show 0 < 18446744073709551616; omega, fun m hm => by cases hm⟩⟩
theorem alloc_get {w : World} (a : Obj) {k : Nat} {o : Obj} (h : w.heap[k]? = some o) : (w.alloc a).heap[k]? = some o := hkY ((Touch.refl _ _).alloc _) h
theorem alloc_new {w : World} (a : Obj) {n : Nat} (h : w.heap.size = n) : (w.alloc a).heap[n]? = some a := h ▸ heap_alloc_new w a
theorem alloc_size {w : World} (a : Obj) {n : Nat} (h : w.heap.size = n) : (w.alloc a).heap.size = n + 1 := by rw [World.size_alloc, h]
theorem SlW.block {w : World} {g : Nat} {raw : List Rw} (h : w.heap[g]? = some (.cells (cellsW raw).toArray 48)) (hl : raw.length ≤ 1048576) : SlW w (.slice (some ⟨g, 0, none⟩) raw.length raw.length) raw :=
  ⟨_, _, rfl, (fun e => by cases e), Nat.le_refl _, by omega, .inr ⟨g, 0, rfl, fun j u hu => by rw [Nat.zero_add, cell_of_block h]; simpa using hu⟩⟩
theorem SlY.block {w : World} {g : Nat} {raw : List Mk} (h : w.heap[g]? = some (.cells (cellsY raw).toArray 45)) (hl : raw.length ≤ 1048576) : SlY w (.slice (some ⟨g, 0, none⟩) raw.length raw.length) raw :=
  ⟨_, _, rfl, (fun e => by cases e), Nat.le_refl _, by omega, .inr ⟨g, 0, rfl, fun j u hu => by rw [Nat.zero_add, cell_of_block h]; simpa using hu⟩⟩
theorem SlE.block {w : World} {g : Nat} {raw : List En} (h : w.heap[g]? = some (.cells (cellsE raw).toArray 50)) (hl : raw.length ≤ 1048576) : SlE w (.slice (some ⟨g, 0, none⟩) raw.length raw.length) raw :=
  ⟨_, _, rfl, (fun e => by cases e), Nat.le_refl _, by omega, .inr ⟨g, 0, rfl, fun j u hu => by rw [Nat.zero_add, cell_of_block h]; simpa using hu⟩⟩
abbrev rTx (s : ByteArray) : Rw := ⟨s, false, 0, 0, 0, ⟨#[]⟩, ⟨none, 0, 0⟩⟩
theorem SlRn.one {w w' : World} {s : ByteArray} {g : Nat} (h : w.heap[g]? = some (.cells (cellsW [rTx s]).toArray 48)) : SlRn w (.slice (some ⟨g, 0, none⟩) 1 1) [kTx s] :=
  ⟨[rTx s], SlW.block h (by show 1 ≤ 1048576; omega), ⟨rfl, rfl, rfl, SlY.nil w⟩, trivial⟩
theorem SlRn.three {w w' : World} {s t u : ByteArray} {g : Nat} (h : w.heap[g]? = some (.cells (cellsW [rTx s, rTx t, rTx u]).toArray 48)) : SlRn w (.slice (some ⟨g, 0, none⟩) 3 3) [kTx s, kTx t, kTx u] :=
  ⟨[rTx s, rTx t, rTx u], SlW.block h (by show 3 ≤ 1048576; omega), ⟨rfl, rfl, rfl, SlY.nil w⟩, ⟨rfl, rfl, rfl, SlY.nil w⟩, ⟨rfl, rfl, rfl, SlY.nil w⟩, trivial⟩
theorem one_of_map : ∀ {D : List Rn} {s : ByteArray}, D.map Rn.tx = [s] → ∃ r, D = [r] ∧ r.tx = s
  | [], s, h => by simp at h
  | [r], s, h => ⟨r, rfl, by simpa using h⟩
  | a :: b :: D, s, h => by simp at h
theorem fits_small (v : V) (h1 : 0 ≤ v.k ∧ v.k ≤ 5) (h2 : 0 ≤ v.n ∧ v.n ≤ 5) (h3 : v.f = 0) (h4 : v.s = ⟨#[]⟩) : v.fits := by
  refine ⟨by omega, by omega, by omega, by omega, by omega, ?_⟩
  rw [h4]; show 0 ≤ 9223372036854775807; omega
theorem k_view {U : World} {g0 g2 g3 g4 : Nat} (h0 : U.heap[g0]? = some (.cells (cellsY [kB]).toArray 45))
    (h2 : U.heap[g2]? = some (.cells (cellsW [⟨⟨#[97, 98]⟩, false, 0, 0, 0, ⟨#[]⟩, ⟨some ⟨g0, 0, none⟩, 1, 1⟩⟩, ⟨⟨#[]⟩, true, 2, 3, 0, ⟨#[]⟩, ⟨none, 0, 0⟩⟩]).toArray 48))
    (h3 : U.heap[g3]? = some (.cells (cellsE [kEx]).toArray 50)) (h4 : U.heap[g4]? = some (.cells (cellsE [kEm g3]).toArray 50)) :
    VwAt U (.slice (some ⟨g2, 0, none⟩) 2 2) (.slice (some ⟨g4, 0, none⟩) 1 1) 2 [kRa, kRb] [kEm g3] := by
  have tk : V.taken kB.v := ⟨fits_small _ (by decide) (by decide) rfl rfl, by decide, by decide, by decide, by decide, fun _ => rfl⟩
  have te : V.taken ⟨2, 3, 0, ⟨#[]⟩⟩ := ⟨fits_small _ (by decide) (by decide) rfl rfl, by decide, by decide, by decide, by decide, fun _ => rfl⟩
  have tm : V.taken ⟨5, 0, 0, ⟨#[]⟩⟩ := ⟨fits_small _ (by decide) (by decide) rfl rfl, by decide, by decide, by decide, by decide, fun _ => rfl⟩
  have tx : V.taken ⟨0, 0, 0, ⟨#[]⟩⟩ := ⟨fits_small _ (by decide) (by decide) rfl rfl, by decide, by decide, by decide, by decide, fun _ => rfl⟩
  refine ⟨⟨_, SlW.block h2 (by show 2 ≤ 1048576; omega), ⟨rfl, rfl, rfl, SlY.block h0 (by show 1 ≤ 1048576; omega)⟩, ⟨rfl, rfl, rfl, SlY.nil U⟩, trivial⟩, fun x hx => ?_, fun x hx => ?_, ?_, by omega, ?_⟩
  · simp only [List.mem_cons, List.not_mem_nil, or_false] at hx
    rcases hx with rfl | rfl
    · refine ⟨fun e => (by cases e), by decide, by decide, fun m hm => ?_⟩
      rw [List.mem_singleton.1 hm]
      exact ⟨tk, by decide, by decide⟩
    · exact ⟨fun _ => te, by decide, by decide, fun m hm => (by cases hm)⟩
  · simp only [List.mem_cons, List.not_mem_nil, or_false] at hx
    rcases hx with rfl | rfl
    · show 1 ≤ 1048576; omega
    · show 0 ≤ 1048576; omega
  · refine ⟨SlE.block h4 (by show 1 ≤ 1048576; omega), fun e he => ?_⟩
    rw [List.mem_singleton.1 he]
    refine ⟨tm, by show 0 ≤ 1048576; omega, by show 1 ≤ 1048576; omega, SlE.block h3 (by show 1 ≤ 1048576; omega), fun e he => ?_⟩
    rw [List.mem_singleton.1 he]
    exact ⟨tx, by decide, by decide, ⟨none, 0, rfl, fun _ => rfl, Nat.le_refl _, by omega, .inl rfl⟩, rfl⟩
  · rw [k_viewT]
    show kText.data.toList.length ≤ 100000000000000
    decide
set_option maxHeartbeats 32000000 in
theorem known_any (w : World) (hU : TabsU w) (hI : TabsI w) :
    Calls Tryz.prog 8 #[] w fun e w' => e = .returned (.bool true) ∧ Touch (fun _ => False) w w' := by
  obtain ⟨V, hV⟩ : ∃ V, Hid (V = (((((w.alloc (.cells #[.string ⟨#[98, 111, 108, 100]⟩, .int .i64 1, .int .i64 1, .float .f64 0, .string ⟨#[]⟩] 45)).alloc (.cells #[.string ⟨#[]⟩, .bool true, .int .i64 2, .int .i64 3, .float .f64 0, .string ⟨#[]⟩, .slice none 0 0] 48)).alloc (.cells #[.string ⟨#[97, 98]⟩, .bool false, .int .i64 0, .int .i64 0, .float .f64 0, .string ⟨#[]⟩, .slice (some ⟨w.heap.size, 0, none⟩) 1 1, .string ⟨#[]⟩, .bool true, .int .i64 2, .int .i64 3, .float .f64 0, .string ⟨#[]⟩, .slice none 0 0] 48)).alloc (.cells #[.string ⟨#[120]⟩, .int .i64 0, .int .i64 0, .float .f64 0, .string ⟨#[]⟩, .slice none 0 0] 50)).alloc (.cells #[.string ⟨#[109]⟩, .int .i64 5, .int .i64 0, .float .f64 0, .string ⟨#[]⟩, .slice (some ⟨w.heap.size + 1 + 1 + 1, 0, none⟩) 1 1] 50)).alloc (.cells #[.slice (some ⟨w.heap.size + 1 + 1, 0, none⟩) 2 2, .slice (some ⟨w.heap.size + 1 + 1 + 1 + 1, 0, none⟩) 1 1] 25)) := ⟨(((((w.alloc (.cells #[.string ⟨#[98, 111, 108, 100]⟩, .int .i64 1, .int .i64 1, .float .f64 0, .string ⟨#[]⟩] 45)).alloc (.cells #[.string ⟨#[]⟩, .bool true, .int .i64 2, .int .i64 3, .float .f64 0, .string ⟨#[]⟩, .slice none 0 0] 48)).alloc (.cells #[.string ⟨#[97, 98]⟩, .bool false, .int .i64 0, .int .i64 0, .float .f64 0, .string ⟨#[]⟩, .slice (some ⟨w.heap.size, 0, none⟩) 1 1, .string ⟨#[]⟩, .bool true, .int .i64 2, .int .i64 3, .float .f64 0, .string ⟨#[]⟩, .slice none 0 0] 48)).alloc (.cells #[.string ⟨#[120]⟩, .int .i64 0, .int .i64 0, .float .f64 0, .string ⟨#[]⟩, .slice none 0 0] 50)).alloc (.cells #[.string ⟨#[109]⟩, .int .i64 5, .int .i64 0, .float .f64 0, .string ⟨#[]⟩, .slice (some ⟨w.heap.size + 1 + 1 + 1, 0, none⟩) 1 1] 50)).alloc (.cells #[.slice (some ⟨w.heap.size + 1 + 1, 0, none⟩) 2 2, .slice (some ⟨w.heap.size + 1 + 1 + 1 + 1, 0, none⟩) 1 1] 25), Eq.refl _⟩
  obtain ⟨g0, hg0⟩ : ∃ g0, Hid (g0 = w.heap.size) := ⟨_, Eq.refl _⟩
  have tV : Touch (fun _ => False) w V := by rw [hV.out]; exact ((((((Touch.refl _ _).alloc _).alloc _).alloc _).alloc _).alloc _).alloc _
  have hB : V.heap[g0 + 1 + 1 + 1 + 1 + 1]? = some (.cells #[.slice (some ⟨g0 + 1 + 1, 0, none⟩) 2 2, .slice (some ⟨g0 + 1 + 1 + 1 + 1, 0, none⟩) 1 1] 25) ∧ VwAt V (.slice (some ⟨g0 + 1 + 1, 0, none⟩) 2 2) (.slice (some ⟨g0 + 1 + 1 + 1 + 1, 0, none⟩) 1 1) 2 [kRa, kRb] [kEm (g0 + 1 + 1 + 1)] := by
    rw [hV.out]
    have e0 := hg0.out.symm
    rw [e0]
    have z1 := alloc_size (.cells #[.string ⟨#[98, 111, 108, 100]⟩, .int .i64 1, .int .i64 1, .float .f64 0, .string ⟨#[]⟩] 45) e0
    have z2 := alloc_size (.cells #[.string ⟨#[]⟩, .bool true, .int .i64 2, .int .i64 3, .float .f64 0, .string ⟨#[]⟩, .slice none 0 0] 48) z1
    have z3 := alloc_size (.cells #[.string ⟨#[97, 98]⟩, .bool false, .int .i64 0, .int .i64 0, .float .f64 0, .string ⟨#[]⟩, .slice (some ⟨g0, 0, none⟩) 1 1, .string ⟨#[]⟩, .bool true, .int .i64 2, .int .i64 3, .float .f64 0, .string ⟨#[]⟩, .slice none 0 0] 48) z2
    have z4 := alloc_size (.cells #[.string ⟨#[120]⟩, .int .i64 0, .int .i64 0, .float .f64 0, .string ⟨#[]⟩, .slice none 0 0] 50) z3
    have z5 := alloc_size (.cells #[.string ⟨#[109]⟩, .int .i64 5, .int .i64 0, .float .f64 0, .string ⟨#[]⟩, .slice (some ⟨g0 + 1 + 1 + 1, 0, none⟩) 1 1] 50) z4
    refine ⟨alloc_new _ z5, k_view (g0 := g0) (g2 := g0 + 1 + 1) (g3 := g0 + 1 + 1 + 1) (g4 := g0 + 1 + 1 + 1 + 1) ?_ ?_ ?_ ?_⟩
    · exact alloc_get _ (alloc_get _ (alloc_get _ (alloc_get _ (alloc_get _ (alloc_new _ e0)))))
    · exact alloc_get _ (alloc_get _ (alloc_get _ (alloc_new _ z2)))
    · exact alloc_get _ (alloc_get _ (alloc_new _ z3))
    · exact alloc_get _ (alloc_new _ z4)
  rw [← hg0.out] at hV
  have hst := run_store_f64 Tryz.prog
  have HB : Hid (∀ W, Touch (fun _ => False) V W → W.heap[g0 + 1 + 1 + 1 + 1 + 1]? = some (.cells #[.slice (some ⟨g0 + 1 + 1, 0, none⟩) 2 2, .slice (some ⟨g0 + 1 + 1 + 1 + 1, 0, none⟩) 1 1] 25)) := fun W t => hkY t hB.1
  obtain ⟨tx, htx⟩ : ∃ tx : ByteArray, Hid (tx = ⟨(viewT [kRa, kRb] [kEm (g0 + 1 + 1 + 1)]).toArray⟩) := ⟨_, Eq.refl _⟩
  have HTx : Hid ((tx.toList == [116, 32, 34, 97, 98, 34, 32, 34, 98, 111, 108, 100, 34, 61, 116, 114, 117, 101, 10, 101, 32, 51, 10, 109, 32, 34, 109, 34, 61, 109, 97, 112, 10, 32, 32, 109, 32, 34, 120, 34, 61, 110, 117, 108, 108, 10]) = true) := by
    rw [Hid, htx.out, k_viewT]; kernel_rfl
  have HText : Hid (∀ W, Touch (fun _ => False) V W → Calls Tryz.prog 12 #[.agg #[.slice (some ⟨g0 + 1 + 1, 0, none⟩) 2 2, .slice (some ⟨g0 + 1 + 1 + 1 + 1, 0, none⟩) 1 1]] W fun e w' => e = .returned (.string tx) ∧ Touch (fun _ => False) W w') := fun W t => by
    rw [htx.out]; exact text_any (hB.2.touch t) (hI.keep (tV.trans t))
  have HPlain : Hid (∀ W, Touch (fun _ => False) V W → Calls Tryz.prog 14 #[.agg #[.slice (some ⟨g0 + 1 + 1, 0, none⟩) 2 2, .slice (some ⟨g0 + 1 + 1 + 1 + 1, 0, none⟩) 1 1]] W fun e w' => e = .returned (.string ⟨#[97, 98, 239, 191, 188]⟩) ∧ Touch (fun _ => False) W w') := fun W t => by
    have h := plain_any (vo := some ⟨g0 + 1 + 1 + 1 + 1, 0, none⟩) (vn := 1) (vc := 1) (hB.2.r.touch t) (fun x hx => by
      simp only [List.mem_cons, List.not_mem_nil, or_false] at hx
      rcases hx with rfl | rfl
      · exact ⟨⟨fun e => (by cases e), fun _ => ⟨rfl, by kernel_rfl⟩⟩, by show 2 ≤ 1048576; omega⟩
      · exact ⟨⟨fun _ => rfl, fun e => (by cases e)⟩, by show 0 ≤ 1048576; omega⟩) (by rw [k_plain]; show 5 ≤ 100000000000000; omega) (hU.keep (tV.trans t))
    rw [k_plain] at h
    exact h
  have HLen : Hid (∀ W, Touch (fun _ => False) V W → Calls Tryz.prog 16 #[.agg #[.slice (some ⟨g0 + 1 + 1, 0, none⟩) 2 2, .slice (some ⟨g0 + 1 + 1 + 1 + 1, 0, none⟩) 1 1]] W fun e w' => e = .returned (.int .i64 3) ∧ Touch (fun _ => False) W w') := fun W t => by
    have h := len_any (hB.2.r.touch t) (by decide) (hU.keep (tV.trans t)) ⟨some ⟨g0 + 1 + 1 + 1 + 1, 0, none⟩, 1, 1, rfl⟩
    rw [k_len] at h
    exact h
  have HSame : Hid (∀ W, Touch (fun _ => False) V W → Calls Tryz.prog 13 #[.agg #[.slice (some ⟨g0 + 1 + 1, 0, none⟩) 2 2, .slice (some ⟨g0 + 1 + 1 + 1 + 1, 0, none⟩) 1 1], .agg #[.slice (some ⟨g0 + 1 + 1, 0, none⟩) 2 2, .slice (some ⟨g0 + 1 + 1 + 1 + 1, 0, none⟩) 1 1]] W fun e w' => e = .returned (.bool true) ∧ Touch (fun _ => False) W w') := fun W t => by
    have h := vsame_any (hB.2.touch t) (hB.2.touch t) (hI.keep (tV.trans t))
    rw [decide_eq_true rfl] at h
    exact h
  have HNot : Hid (∀ W, Touch (fun _ => False) V W → Calls Tryz.prog 13 #[.agg #[.slice (some ⟨g0 + 1 + 1, 0, none⟩) 2 2, .slice (some ⟨g0 + 1 + 1 + 1 + 1, 0, none⟩) 1 1], .agg #[.slice none 0 0, .slice none 0 0]] W fun e w' => e = .returned (.bool false) ∧ Touch (fun _ => False) W w') := fun W t => by
    have h := vsame_any (hB.2.touch t) (vb := .slice none 0 0) (vn := .slice none 0 0) (k := 0) (K := []) (N := []) ⟨SlRn.nil W, fun x hx => (by cases hx), fun x hx => (by cases hx), ⟨⟨none, 0, rfl, fun _ => rfl, Nat.le_refl _, by omega, .inl rfl⟩, rfl⟩, by omega, by show 0 ≤ 100000000000000; omega⟩ (hI.keep (tV.trans t))
    rw [k_empty] at h
    exact h
  have HDiff : Hid (∀ W va vb, Touch (fun _ => False) V W → SlRn W va [kTx ⟨#[97, 98, 99]⟩] → SlRn W vb [kTx ⟨#[97, 120, 99]⟩] → Calls Tryz.prog 25 #[va, vb] W fun e w' => ∃ g o s, e = .returned (.tuple #[.int .i64 1, .int .i64 1, .slice (some ⟨g, o, none⟩) 1 s]) ∧ Hid (Touch (fun _ => False) W w' ∧ ∀ W2, Touch (fun _ => False) w' W2 → W2.cell? ⟨g, o, none⟩ = some (.string ⟨#[120]⟩))) := fun W va vb t ha hb => by
    have h := diff_any ha hb (k_ok _ (by kernel_rfl)) (k_ok _ (by kernel_rfl)) (by decide) (by decide) (hU.keep (tV.trans t))
    rw [k_dfA, k_dfN] at h
    refine h.mono ?_
    rintro e w' ⟨v', rfl, sl, tt⟩
    have hl := k_dfL
    generalize dfL [kTx ⟨#[97, 98, 99]⟩] [kTx ⟨#[97, 120, 99]⟩] = D at *
    obtain ⟨r, rfl, hr⟩ := one_of_map hl
    obtain ⟨raw, s1, s2⟩ := sl
    obtain ⟨x, rfl, hx⟩ := s2.one
    obtain ⟨ao, cap, rfl, -⟩ := s1.shape
    obtain ⟨g, o, rfl, -, hc⟩ := s1.at (by simp)
    refine ⟨g, o, cap, rfl, tt, fun W2 t2 => ?_⟩
    have := (hc W2 t2 0 (by simp)).1
    rw [Nat.zero_mul, Nat.add_zero] at this
    rw [this]
    show some (Value.string x.tx) = _
    rw [hx.tx, hr]
  have HClean : Hid (∀ W v, Touch (fun _ => False) V W → SlRn W v [kTx ⟨#[97]⟩, kTx ⟨#[]⟩, kTx ⟨#[98]⟩] → Calls Tryz.prog 18 #[v] W fun e w' => ∃ a c, e = .returned (.slice a 1 c) ∧ Touch (fun _ => False) W w') := fun W v t hs => by
    refine (clean_any hs (fun r hr => ?_) (by decide) (hU.keep (tV.trans t))).mono ?_
    · simp only [List.mem_cons, List.not_mem_nil, or_false] at hr
      rcases hr with rfl | rfl | rfl
      · exact k_ok _ (by kernel_rfl) _ (List.mem_singleton.2 rfl)
      · exact k_ok _ (by kernel_rfl) _ (List.mem_singleton.2 rfl)
      · exact k_ok _ (by kernel_rfl) _ (List.mem_singleton.2 rfl)
    · rintro e w' ⟨v', rfl, sl, tt⟩
      obtain ⟨ao, cap, e, -⟩ := sl.shape
      rw [k_clean] at e
      exact ⟨ao, cap, by rw [e], tt⟩
  have HTw : Hid (Touch (fun _ => False) w V) := tV
  have hc1 : (ByteArray.toList ⟨#[97, 98, 239, 191, 188]⟩ == ByteArray.toList ⟨#[97, 98, 239, 191, 188]⟩) = true := beq_self_eq_true _
  have hc2 : (ByteArray.toList ⟨#[120]⟩ == ByteArray.toList ⟨#[120]⟩) = true := beq_self_eq_true _
  clear hB tV htx hU hI
  go_enter Tryz.func8, Tryz.ntmps8
  go_upto_region 4 with fail
  rw [← hg0.out, ← hV.out]
  clear hV hg0
  obtain ⟨W1, hW1⟩ : ∃ W1, Hid (W1 = (V.alloc (.cells #[.string ⟨#[97, 98, 99]⟩, .bool false, .int .i64 0, .int .i64 0, .float .f64 0, .string ⟨#[]⟩, .slice none 0 0] 48)).alloc (.cells #[.string ⟨#[97, 120, 99]⟩, .bool false, .int .i64 0, .int .i64 0, .float .f64 0, .string ⟨#[]⟩, .slice none 0 0] 48)) := ⟨_, Eq.refl _⟩
  have tW1 : Touch (fun _ => False) V W1 := by rw [hW1.out]; exact ((Touch.refl _ _).alloc _).alloc _
  have HC : Hid (Calls Tryz.prog 25 #[.slice (some ⟨V.heap.size, 0, none⟩) 1 1, .slice (some ⟨V.heap.size + 1, 0, none⟩) 1 1] W1 fun e w' => ∃ g o s, e = .returned (.tuple #[.int .i64 1, .int .i64 1, .slice (some ⟨g, o, none⟩) 1 s]) ∧ Hid (Touch (fun _ => False) W1 w' ∧ ∀ W2, Touch (fun _ => False) w' W2 → W2.cell? ⟨g, o, none⟩ = some (.string ⟨#[120]⟩))) := by
    refine HDiff.out _ _ _ tW1 ?_ ?_
    · rw [hW1.out]; exact SlRn.one (w' := w) (alloc_get _ (alloc_new _ rfl))
    · rw [hW1.out]; exact SlRn.one (w' := w) (alloc_new _ (alloc_size _ rfl))
  have HT1 : Hid (Touch (fun _ => False) V W1) := tW1
  clear HDiff tW1
  go_wp2_with fail
  rw [← hW1.out]
  refine HC.out.mono ?_
  rintro e W2 ⟨g, o, s, rfl, H2⟩
  have HT2 : Hid (Touch (fun _ => False) V W2 ∧ ∀ W3, Touch (fun _ => False) W2 W3 → W3.cell? ⟨g, o, none⟩ = some (.string ⟨#[120]⟩)) := ⟨HT1.out.trans H2.out.1, H2.out.2⟩
  clear HC H2 hW1 HT1
  obtain ⟨v0, v1⟩ := viewO_cells (HB.out _ HT2.out.1)
  have hq := HTx.out
  go_wp2_with fail
  refine (HText.out _ HT2.out.1).mono ?_
  rintro e W3 ⟨rfl, t3⟩
  clear v0 v1 HText
  have HT3 : Hid (Touch (fun _ => False) V W3 ∧ Touch (fun _ => False) W2 W3) := ⟨HT2.out.1.trans t3, t3⟩
  clear t3
  obtain ⟨v0, v1⟩ := viewO_cells (HB.out _ HT3.out.1)
  go_wp2_with fail
  refine (HPlain.out _ HT3.out.1).mono ?_
  rintro e W4 ⟨rfl, t4⟩
  clear v0 v1 HPlain hq
  have HT4 : Hid (Touch (fun _ => False) V W4 ∧ Touch (fun _ => False) W2 W4) := ⟨HT3.out.1.trans t4, HT3.out.2.trans t4⟩
  clear t4 HT3
  obtain ⟨v0, v1⟩ := viewO_cells (HB.out _ HT4.out.1)
  go_wp2_with fail
  refine (HLen.out _ HT4.out.1).mono ?_
  rintro e W5 ⟨rfl, t5⟩
  clear v0 v1 HLen
  have HT5 : Hid (Touch (fun _ => False) V W5 ∧ Touch (fun _ => False) W2 W5) := ⟨HT4.out.1.trans t5, HT4.out.2.trans t5⟩
  clear t5 HT4
  obtain ⟨v0, v1⟩ := viewO_cells (HB.out _ HT5.out.1)
  have c5 := HT2.out.2 _ HT5.out.2
  go_wp2_with fail
  refine (HSame.out _ HT5.out.1).mono ?_
  rintro e W6 ⟨rfl, t6⟩
  clear v0 v1 HSame c5
  have HT6 : Hid (Touch (fun _ => False) V W6) := HT5.out.1.trans t6
  clear t6 HT5 HT2
  obtain ⟨v0, v1⟩ := viewO_cells (HB.out _ HT6.out)
  go_wp2_with fail
  refine (HNot.out _ HT6.out).mono ?_
  rintro e W7 ⟨rfl, t7⟩
  clear v0 v1 HNot
  have t7' : Touch (fun _ => False) V W7 := HT6.out.trans t7
  obtain ⟨W8, hW8⟩ : ∃ W8, Hid (W8 = W7.alloc (.cells #[.string ⟨#[97]⟩, .bool false, .int .i64 0, .int .i64 0, .float .f64 0, .string ⟨#[]⟩, .slice none 0 0, .string ⟨#[]⟩, .bool false, .int .i64 0, .int .i64 0, .float .f64 0, .string ⟨#[]⟩, .slice none 0 0, .string ⟨#[98]⟩, .bool false, .int .i64 0, .int .i64 0, .float .f64 0, .string ⟨#[]⟩, .slice none 0 0] 48)) := ⟨_, Eq.refl _⟩
  have tW8 : Touch (fun _ => False) V W8 := by rw [hW8.out]; exact t7'.alloc _
  have HC8 : Hid (Calls Tryz.prog 18 #[.slice (some ⟨W7.heap.size, 0, none⟩) 3 3] W8 fun e w' => ∃ a c, e = .returned (.slice a 1 c) ∧ Touch (fun _ => False) W8 w') := by
    refine HClean.out _ _ tW8 ?_
    rw [hW8.out]; exact SlRn.three (w' := w) (alloc_new _ rfl)
  have HT8 : Hid (Touch (fun _ => False) V W8) := tW8
  clear t7 t7' tW8 HT6 HClean
  go_wp2_with fail
  rw [← hW8.out]
  refine HC8.out.mono ?_
  rintro e W9 ⟨a, c, rfl, t9⟩
  have HF : Hid (Touch (fun _ => False) w W9) := HTw.out.trans (HT8.out.trans t9)
  clear t9 HC8 HT8 hW8 HB
  go_wp2_with fail
  go_ret
  exact ⟨rfl, HF.out⟩
end Go.Proofs.YtijkekkjiboomaaGreatDoor
