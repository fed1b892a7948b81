/- The library's functions on the sorted keys of a map, laid at this program. -/
import Derived.Shelf.SlIter.Nil
import Derived.Shelf.SortM.Plain
import Derived.Shelf.SortM.SortNone
import Derived.Ground.GgzProg
import Derived.Ground.SlgmProg
import Derived.Test.YtodpdcflbnomgaaGreatProg
import Derived.Test.YtodpdcflbnomgaaGreatPart13
import Derived.Test.YtodpdcflbnomgaaGreatRowQ
namespace Go.Proofs
open Go.Shelf
def Tryz.keys61_ren : Go.Shelf.Ren := ⟨fun | 7 => 61 | 10 => 77 | n => n, fun | 23 => 63 | 26 => 9 | 3 => 68 | 28 => 110 | 0 => 0 | 27 => 109 | 33 => 127 | 4 => 4 | n => n, fun | n => n⟩
theorem Tryz.keys61 : Go.Proofs.SlLaysZ.n7 Tryz.prog Tryz.keys61_ren := {
  mixed := by kernel_rfl
  f7 := ⟨Tryz.f61.name, by decide, Tryz.func61.trans (congrArg some (by kernel_rfl))⟩
  f10 := ⟨Tryz.f77.name, by decide, Tryz.func77.trans (congrArg some (by kernel_rfl))⟩
  t0 := Tryz.underlying0
  a0 := Tryz.isAgg0
  z0 := Tryz.sizeOf0
  v0 := Tryz.zeroValue0
  t4 := Tryz.underlying4
  a4 := Tryz.isAgg4
  z4 := Tryz.sizeOf4
  v4 := Tryz.zeroValue4
  t23 := Tryz.underlying63
  a23 := Tryz.isAgg63
  z23 := Tryz.sizeOf63
  v23 := Tryz.zeroValue63
  t26 := Tryz.underlying9
  a26 := Tryz.isAgg9
  z26 := Tryz.sizeOf9
  v26 := Tryz.zeroValue9
  t27 := Tryz.underlying109
  a27 := Tryz.isAgg109
  z27 := Tryz.sizeOf109
  v27 := Tryz.zeroValue109
  t28 := Tryz.underlying110
  a28 := Tryz.isAgg110
  z28 := Tryz.sizeOf110
  v28 := Tryz.zeroValue110
  t33 := Tryz.underlying127
  a33 := Tryz.isAgg127
  z33 := Tryz.sizeOf127
  v33 := Tryz.zeroValue127 }
def Tryz.sorted60_ren : Go.Shelf.Ren := ⟨fun | 6 => 60 | 8 => 75 | 9 => 76 | 11 => 89 | 13 => 65 | 12 => 90 | 23 => 86 | 24 => 87 | 14 => 96 | 15 => 97 | 16 => 98 | 17 => 99 | 18 => 100 | 19 => 101 | 20 => 102 | 21 => 103 | 22 => 104 | 25 => 106 | 26 => 92 | 27 => 93 | 28 => 107 | 29 => 108 | 30 => 109 | 31 => 110 | n => n, fun | 26 => 9 | 28 => 110 | 24 => 42 | 0 => 0 | 3 => 3 | 37 => 115 | 48 => 136 | 50 => 32 | 4 => 4 | 40 => 130 | 39 => 129 | 45 => 92 | 5 => 5 | 9 => 9 | 51 => 141 | 55 => 145 | 57 => 153 | 58 => 154 | 33 => 127 | n => n, fun | n => n⟩
theorem Tryz.sorted60 : Go.Proofs.SlLaysZ.n6 Tryz.prog Tryz.sorted60_ren := {
  mixed := by kernel_rfl
  f6 := ⟨Tryz.f60.name, by decide, Tryz.func60.trans (congrArg some (by kernel_rfl))⟩
  f8 := ⟨Tryz.f75.name, by decide, Tryz.func75.trans (congrArg some (by kernel_rfl))⟩
  f11 := ⟨Tryz.f89.name, by decide, Tryz.func89.trans (congrArg some (by kernel_rfl))⟩
  t0 := Tryz.underlying0
  a0 := Tryz.isAgg0
  z0 := Tryz.sizeOf0
  v0 := Tryz.zeroValue0
  t24 := Tryz.underlying42
  a24 := Tryz.isAgg42
  z24 := Tryz.sizeOf42
  v24 := Tryz.zeroValue42
  t26 := Tryz.underlying9
  a26 := Tryz.isAgg9
  z26 := Tryz.sizeOf9
  v26 := Tryz.zeroValue9
  t28 := Tryz.underlying110
  a28 := Tryz.isAgg110
  z28 := Tryz.sizeOf110
  v28 := Tryz.zeroValue110
  i26 := by kernel_rfl }
def Tryz.sort76_ren : Go.Shelf.Ren := ⟨fun | 6 => 76 | 8 => 65 | 9 => 90 | 19 => 86 | 20 => 87 | 21 => 96 | 22 => 97 | 23 => 98 | 24 => 99 | 25 => 100 | 26 => 101 | 27 => 102 | 28 => 103 | 29 => 104 | 36 => 106 | 31 => 92 | 32 => 93 | 37 => 107 | 38 => 108 | 39 => 109 | 41 => 110 | n => n, fun | 27 => 42 | 29 => 9 | 3 => 3 | 32 => 115 | 26 => 42 | 0 => 0 | 44 => 136 | 46 => 32 | 4 => 4 | 36 => 130 | 35 => 129 | 41 => 92 | 5 => 5 | 9 => 9 | 53 => 141 | 57 => 145 | 63 => 153 | 64 => 154 | n => n, fun | n => n⟩
theorem Tryz.sort76 : Go.Proofs.SlLaysM.n6 Tryz.prog Tryz.sort76_ren := {
  mixed := by kernel_rfl
  f6 := ⟨Tryz.f76.name, by decide, Tryz.func76.trans (congrArg some (by kernel_rfl))⟩
  f8 := Tryz.func65.trans (congrArg some (by kernel_rfl))
  f9 := ⟨Tryz.f90.name, by decide, Tryz.func90.trans (congrArg some (by kernel_rfl))⟩
  f19 := Tryz.func86.trans (congrArg some (by kernel_rfl))
  f20 := Tryz.func87.trans (congrArg some (by kernel_rfl))
  f21 := ⟨Tryz.f96.name, by decide, Tryz.func96.trans (congrArg some (by kernel_rfl))⟩
  f22 := ⟨Tryz.f97.name, by decide, Tryz.func97.trans (congrArg some (by kernel_rfl))⟩
  f23 := ⟨Tryz.f98.name, by decide, Tryz.func98.trans (congrArg some (by kernel_rfl))⟩
  f24 := ⟨Tryz.f99.name, by decide, Tryz.func99.trans (congrArg some (by kernel_rfl))⟩
  f25 := ⟨Tryz.f100.name, by decide, Tryz.func100.trans (congrArg some (by kernel_rfl))⟩
  f26 := ⟨Tryz.f101.name, by decide, Tryz.func101.trans (congrArg some (by kernel_rfl))⟩
  f27 := ⟨Tryz.f102.name, by decide, Tryz.func102.trans (congrArg some (by kernel_rfl))⟩
  f28 := ⟨Tryz.f103.name, by decide, Tryz.func103.trans (congrArg some (by kernel_rfl))⟩
  f29 := ⟨Tryz.f104.name, by decide, Tryz.func104.trans (congrArg some (by kernel_rfl))⟩
  f31 := Tryz.func92.trans (congrArg some (by kernel_rfl))
  f32 := Tryz.func93.trans (congrArg some (by kernel_rfl))
  f36 := ⟨Tryz.f106.name, by decide, Tryz.func106.trans (congrArg some (by kernel_rfl))⟩
  f37 := ⟨Tryz.f107.name, by decide, Tryz.func107.trans (congrArg some (by kernel_rfl))⟩
  f38 := ⟨Tryz.f108.name, by decide, Tryz.func108.trans (congrArg some (by kernel_rfl))⟩
  f39 := ⟨Tryz.f109.name, by decide, Tryz.func109.trans (congrArg some (by kernel_rfl))⟩
  f41 := ⟨Tryz.f110.name, by decide, Tryz.func110.trans (congrArg some (by kernel_rfl))⟩
  t0 := Tryz.underlying0
  a0 := Tryz.isAgg0
  z0 := Tryz.sizeOf0
  v0 := Tryz.zeroValue0
  t3 := Tryz.underlying3
  a3 := Tryz.isAgg3
  z3 := Tryz.sizeOf3
  v3 := Tryz.zeroValue3
  t4 := Tryz.underlying4
  a4 := Tryz.isAgg4
  z4 := Tryz.sizeOf4
  v4 := Tryz.zeroValue4
  t5 := Tryz.underlying5
  a5 := Tryz.isAgg5
  z5 := Tryz.sizeOf5
  v5 := Tryz.zeroValue5
  t9 := Tryz.underlying9
  a9 := Tryz.isAgg9
  z9 := Tryz.sizeOf9
  v9 := Tryz.zeroValue9
  t26 := Tryz.underlying42
  a26 := Tryz.isAgg42
  z26 := Tryz.sizeOf42
  v26 := Tryz.zeroValue42
  t27 := Tryz.underlying42
  a27 := Tryz.isAgg42
  z27 := Tryz.sizeOf42
  v27 := Tryz.zeroValue42
  t29 := Tryz.underlying9
  a29 := Tryz.isAgg9
  z29 := Tryz.sizeOf9
  v29 := Tryz.zeroValue9
  t32 := Tryz.underlying115
  a32 := Tryz.isAgg115
  z32 := Tryz.sizeOf115
  v32 := Tryz.zeroValue115
  t35 := Tryz.underlying129
  a35 := Tryz.isAgg129
  z35 := Tryz.sizeOf129
  v35 := Tryz.zeroValue129
  t36 := Tryz.underlying130
  a36 := Tryz.isAgg130
  z36 := Tryz.sizeOf130
  v36 := Tryz.zeroValue130
  t41 := Tryz.underlying92
  a41 := Tryz.isAgg92
  z41 := Tryz.sizeOf92
  v41 := Tryz.zeroValue92
  t44 := Tryz.underlying136
  a44 := Tryz.isAgg136
  z44 := Tryz.sizeOf136
  v44 := Tryz.zeroValue136
  t46 := Tryz.underlying32
  a46 := Tryz.isAgg32
  z46 := Tryz.sizeOf32
  v46 := Tryz.zeroValue32
  t53 := Tryz.underlying141
  a53 := Tryz.isAgg141
  z53 := Tryz.sizeOf141
  v53 := Tryz.zeroValue141
  t57 := Tryz.underlying145
  a57 := Tryz.isAgg145
  z57 := Tryz.sizeOf145
  v57 := Tryz.zeroValue145
  t63 := Tryz.underlying153
  a63 := Tryz.isAgg153
  z63 := Tryz.sizeOf153
  v63 := Tryz.zeroValue153
  t64 := Tryz.underlying154
  a64 := Tryz.isAgg154
  z64 := Tryz.sizeOf154
  v64 := Tryz.zeroValue154 }
end Go.Proofs

/- The library's contracts on the sorted keys of a map, laid at this program. -/
namespace Go.Proofs
open Go.RowKit Go.Maps Go.Sort Go.Shelf

theorem Tryz.sorts60 (m : Nat) : AnyZ.SortsIn Tryz.prog Tryz.sorted60_ren Fence.wide m :=
  ⟨fun blk off cap ss W hH hblk hsz => callsIn_wide.2 (AnyM.slices_Sort_string Tryz.sort76 blk off cap ss W hH hblk hsz),
   fun p cap W => callsIn_wide.2 (AnyM.slices_Sort_string_none Tryz.sort76 p cap W)⟩

theorem Tryz.maps_Keys_61 (mb : Option Nat) (W : World) : CallsIn Fence.wide 5 Tryz.prog 61 #[.map mb] W fun e w' => e = .returned (.func (.func 77) #[] #[.pointer (some ⟨W.heap.size, 0, none⟩)]) ∧ w' = W.alloc (.cells #[.map mb] 63) :=
  AnyZ.keys_in Tryz.keys61 Fence.wide 5 trivial rfl mb W

set_option maxHeartbeats 1000000 in
theorem Tryz.slices_Sorted_keys_60_61 {H : Type} (b nn : Nat) (D0 : DataW H) (R : Value → Option (DataW H × List MemPlace)) (w : World) (hown : w.ownsMap Tryz.prog 9 R b nn D0) (hmax : Maps.size D0 ≤ maxLen) (hbytes : Maps.size D0 * 16 ≤ 140737488355328) :
    CallsIn Fence.wide 5 Tryz.prog 60 #[.func (.func 77) #[] #[.pointer (some ⟨w.heap.size, 0, none⟩)]] (w.alloc (.cells #[.map (some b)] 63)) fun e w' => ∃ (v : Value) (ss : List (List UInt8)), e = .returned v ∧ ss.Perm (strKeys D0) ∧
      w'.ownsRow (w.alloc (.cells #[.map (some b)] 63)).heap.size 9 1 v ss.length ((ss.mergeSort (fun x y => decide (x ≤ y))).map encStr) ∧ (v = .slice none 0 0 ↔ ss = []) ∧ Below (w.alloc (.cells #[.map (some b)] 63)).heap.size (w.alloc (.cells #[.map (some b)] 63)) w' := by
  have hbl := hown.lt
  have hseq : SeqGives Fence.wide 2 Tryz.prog 77 #[.pointer (some ⟨w.heap.size, 0, none⟩)] encStr (fun ss => ss.Perm (strKeys D0)) (Maps.size D0) (w.alloc (.cells #[.map (some b)] 63)) :=
    AnyZ.keys_gives (ρ := Tryz.keys61_ren) { Tryz.keys61 with } Fence.wide _ trivial rfl (by omega) w.heap.size b nn D0 _ (by simp) (by simp) (by
      obtain ⟨es, clock, hb, Ft, hs, hD⟩ := hown
      exact ⟨es, clock, (Below.heap_alloc _ _ b hbl).trans hb, Ft, hs, hD⟩)
  exact AnyZ.sorted_in Tryz.sorted60 Fence.wide 5 trivial trivial trivial trivial rfl (by omega) (Tryz.sorts60 _) (enters_of Tryz.func76 (by kernel_rfl) rfl) 77 #[.pointer (some ⟨w.heap.size, 0, none⟩)] trivial (enters_of Tryz.func77 (by kernel_rfl) rfl) _ _ hmax hbytes _ hseq

set_option maxHeartbeats 1000000 in
theorem Tryz.slices_Sorted_keys_nil_60_61 (w : World) :
    CallsIn Fence.wide 5 Tryz.prog 60 #[.func (.func 77) #[] #[.pointer (some ⟨w.heap.size, 0, none⟩)]] (w.alloc (.cells #[.map none] 63)) fun e w' => ∃ (v : Value) (ss : List (List UInt8)), e = .returned v ∧ ss = [] ∧
      w'.ownsRow (w.alloc (.cells #[.map none] 63)).heap.size 9 1 v ss.length ((ss.mergeSort (fun x y => decide (x ≤ y))).map encStr) ∧ (v = .slice none 0 0 ↔ ss = []) ∧ Below (w.alloc (.cells #[.map none] 63)).heap.size (w.alloc (.cells #[.map none] 63)) w' := by
  have hseq : SeqGives Fence.wide 2 Tryz.prog 77 #[.pointer (some ⟨w.heap.size, 0, none⟩)] encStr (fun ss : List (List UInt8) => ss = []) 0 (w.alloc (.cells #[.map none] 63)) :=
    AnyZ.keys_gives_nil (ρ := Tryz.keys61_ren) { Tryz.keys61 with } Fence.wide _ trivial rfl w.heap.size _ (by simp) (by simp)
  exact AnyZ.sorted_in Tryz.sorted60 Fence.wide 5 trivial trivial trivial trivial rfl (by omega) (Tryz.sorts60 _) (enters_of Tryz.func76 (by kernel_rfl) rfl) 77 #[.pointer (some ⟨w.heap.size, 0, none⟩)] trivial (enters_of Tryz.func77 (by kernel_rfl) rfl) _ 0 (Nat.zero_le _) (by omega) _ hseq

end Go.Proofs

/- Package maps: what a view is, as a function; how entries lie; the sorted keys of a map. -/
namespace Go.Proofs.YtodpdcflbnomgaaGreat
open Go.RowKit Go.Maps Go.Sort
set_option linter.unusedVariables false
set_option linter.unusedSimpArgs false
set_option maxRecDepth 100000

/-- An entry of a view. -/
inductive Et where
  | mk (ky : ByteArray) (v : V) (kids : List Et)
def Et.ky : Et → ByteArray | .mk k _ _ => k
def Et.v : Et → V | .mk _ v _ => v
def Et.kids : Et → List Et | .mk _ _ l => l
abbrev strK (k : Key) : ByteArray := ⟨k.toArray⟩
/-- A map's keys. -/
def keysS (s : MS) (c k : Int) : List Key := ((aget (kI c k) s.keys).getD []).map (·.1)
/-- An entry of a view, or none. -/
def entE (f : Int → Int → List Et) (o : O × Bool) (ky : Key) : Option Et := if o.2 = true then some (.mk (strK ky) o.1.v (if isMapB o.1 = true then f o.1.c o.1.k else [])) else none
/-- What is in a map, down to a depth. -/
def viewE (s : MS) : Nat → Int → Int → List Et
  | 0, _, _ => []
  | n + 1, c, k => (keysS s c k).filterMap fun ky => entE (viewE s n) (getS s c k (strK ky)) ky
theorem viewE_succ (s : MS) (n : Nat) (c k : Int) : viewE s (n + 1) c k = (keysS s c k).filterMap fun ky => entE (viewE s n) (getS s c k (strK ky)) ky := rfl
/-- Maps within maps end above that depth. -/
def Deep (s : MS) : Nat → Int → Int → Prop
  | 0, _, _ => False
  | n + 1, c, k => (keysS s c k).length ≤ 1000000 ∧ ∀ ky ∈ keysS s c k, ky.length ≤ 281474976710656 ∧ ((getS s c k (strK ky)).2 = true → isMapB (getS s c k (strK ky)).1 = true → U64 (getS s c k (strK ky)).1.c ∧ U64 (getS s c k (strK ky)).1.k ∧ Deep s n (getS s c k (strK ky)).1.c (getS s c k (strK ky)).1.k)
/-- Entries as they lie, against a view's. -/
def EtRow (P : Value → List Et → Prop) (raws : List Ew) (l : List Et) : Prop := raws.length = l.length ∧ ∀ i (h1 : i < raws.length) (h2 : i < l.length), raws[i].ky = l[i].ky ∧ (⟨raws[i].vk, raws[i].vn, raws[i].vf, raws[i].vs⟩ : V) = l[i].v ∧ P raws[i].ks.val l[i].kids
/-- A slice of entries whose cells lie in blocks of that sort. -/
def SlS (w : World) (S : Nat → Prop) (v : Value) (raws : List Ew) : Prop := ∃ ao cap, v = .slice ao raws.length cap ∧ (ao = none → cap = 0) ∧ raws.length ≤ cap ∧ cap ≤ 9223372036854775807 ∧ (raws = [] ∨ ∃ b o, ao = some ⟨b, o, none⟩ ∧ S b ∧ ∀ j u, (cellsQ raws)[j]? = some u → w.cell? ⟨b, o + j, none⟩ = some u)
theorem SlS.sl {w : World} {S : Nat → Prop} {v : Value} {raws : List Ew} (h : SlS w S v raws) : SlQ w v raws := by
  obtain ⟨ao, cap, e, h1, h2, h3, h4⟩ := h
  refine ⟨ao, cap, e, h1, h2, h3, ?_⟩
  rcases h4 with h4 | ⟨b, o, e2, _, hc⟩
  · exact .inl h4
  · exact .inr ⟨b, o, e2, hc⟩
theorem cellsQ_pos {raws : List Ew} (h : raws ≠ []) : ∃ u, (cellsQ raws)[0]? = some u := by
  cases raws with
  | nil => exact absurd rfl h
  | cons r l => exact ⟨_, rfl⟩
theorem SlS.touch {w w' : World} {S T : Nat → Prop} {v : Value} {raws : List Ew} (h : SlS w S v raws) (t : Touch T w w') (hs : ∀ k, S k → ¬ T k) : SlS w' S v raws := by
  obtain ⟨ao, cap, e, h1, h2, h3, h4⟩ := h
  refine ⟨ao, cap, e, h1, h2, h3, ?_⟩
  rcases h4 with h4 | ⟨b, o, e2, hS, hc⟩
  · exact .inl h4
  · refine .inr ⟨b, o, e2, hS, fun j u hu => ?_⟩
    have := hc j u hu
    rw [World.cell?_of_block (t.block _ (World.block_lt_of_cell? _ _ this) (hs b hS))]; exact this
theorem SlS.mono {w : World} {S T : Nat → Prop} {v : Value} {raws : List Ew} (h : SlS w S v raws) (hs : ∀ k, k < w.heap.size → S k → T k) : SlS w T v raws := by
  obtain ⟨ao, cap, e, h1, h2, h3, h4⟩ := h
  refine ⟨ao, cap, e, h1, h2, h3, ?_⟩
  by_cases hne : raws = []
  · exact .inl hne
  · rcases h4 with h4 | ⟨b, o, e2, hS, hc⟩
    · exact absurd h4 hne
    · obtain ⟨u, hu⟩ := cellsQ_pos hne
      exact .inr ⟨b, o, e2, hs b (World.block_lt_of_cell? _ _ (hc 0 u hu)) hS, hc⟩
theorem SlS.nil (w : World) (S : Nat → Prop) : SlS w S (.slice none 0 0) [] := ⟨none, 0, rfl, fun _ => rfl, Nat.le_refl _, by omega, .inl rfl⟩
theorem NewQ.slS {W w : World} {v : Value} {l : List Ew} (h : NewQ W w v l) : SlS w (fun k => W.heap.size ≤ k) v l := by
  rcases h.owns.2 with ⟨e, h0⟩ | ⟨g, cap, cur, e, hb, hg, q1, q2, q3, q4⟩
  · have : l = [] := List.length_eq_zero_iff.1 (by omega)
    subst this
    rw [e]; exact SlS.nil w _
  · refine ⟨_, cap, e, (fun h => by cases h), q1, q2, .inr ⟨g, 0, rfl, h.fresh g (by rw [e]; rfl), fun j u hu => ?_⟩⟩
    rw [← q4, List.getElem?_take] at hu
    split at hu
    · rw [cell_of_block hg, Nat.zero_add, ← Array.getElem?_toList]; exact hu
    · cases hu
def EtAt (w : World) (S : Nat → Prop) : Nat → Value → List Et → Prop
  | 0, v, l => l = [] ∧ SlS w S v []
  | h + 1, v, l => ∃ raws, SlS w S v raws ∧ EtRow (EtAt w S h) raws l
theorem EtRow.mono {P Q : Value → List Et → Prop} (hPQ : ∀ v l, P v l → Q v l) {raws : List Ew} {l : List Et} (h : EtRow P raws l) : EtRow Q raws l :=
  ⟨h.1, fun i h1 h2 => ⟨(h.2 i h1 h2).1, (h.2 i h1 h2).2.1, hPQ _ _ (h.2 i h1 h2).2.2⟩⟩
theorem EtAt.touch {w w' : World} {S T : Nat → Prop} (t : Touch T w w') (hs : ∀ k, S k → ¬ T k) : ∀ {h : Nat} {v : Value} {l : List Et}, EtAt w S h v l → EtAt w' S h v l
  | 0, v, l, h => ⟨h.1, h.2.touch t hs⟩
  | n + 1, v, l, ⟨raws, h1, h2⟩ => ⟨raws, h1.touch t hs, h2.mono fun v l q => EtAt.touch t hs q⟩
theorem EtAt.mono {w : World} {S T : Nat → Prop} (hs : ∀ k, k < w.heap.size → S k → T k) : ∀ {h : Nat} {v : Value} {l : List Et}, EtAt w S h v l → EtAt w T h v l
  | 0, v, l, h => ⟨h.1, h.2.mono hs⟩
  | n + 1, v, l, ⟨raws, h1, h2⟩ => ⟨raws, h1.mono hs, h2.mono fun v l q => EtAt.mono hs q⟩
theorem EtAt.nil (w : World) (S : Nat → Prop) : ∀ h : Nat, EtAt w S h (.slice none 0 0) []
  | 0 => ⟨rfl, SlS.nil w S⟩
  | h + 1 => ⟨[], SlS.nil w S, rfl, fun i h1 => by simp at h1⟩
theorem EtAt.shape {w : World} {S : Nat → Prop} {h : Nat} {v : Value} {l : List Et} (g : EtAt w S h v l) : ∃ ao cap, v = .slice ao l.length cap := by
  cases h with
  | zero =>
    obtain ⟨rfl, ao, cap, e, -⟩ := g
    exact ⟨ao, cap, e⟩
  | succ h =>
    obtain ⟨raws, ⟨ao, cap, e, -⟩, hl, -⟩ := g
    exact ⟨ao, cap, by rw [e, hl]⟩
theorem EtRow.nil (P : Value → List Et → Prop) : EtRow P [] [] := ⟨rfl, fun i h1 => by simp at h1⟩
theorem EtRow.snoc {P : Value → List Et → Prop} {raws : List Ew} {l : List Et} (h : EtRow P raws l) {r : Ew} {e : Et} (h1 : r.ky = e.ky) (h2 : (⟨r.vk, r.vn, r.vf, r.vs⟩ : V) = e.v) (h3 : P r.ks.val e.kids) : EtRow P (raws ++ [r]) (l ++ [e]) := by
  refine ⟨by simp [h.1], fun i a b => ?_⟩
  by_cases hi : i < raws.length
  · have hi2 : i < l.length := by rw [← h.1]; exact hi
    rw [List.getElem_append_left hi, List.getElem_append_left hi2]
    exact h.2 i hi hi2
  · have e1 : i = raws.length := by simp at a; omega
    subst e1
    have e2 : l[raws.length]? = none := by rw [List.getElem?_eq_none_iff]; have := h.1; omega
    rw [List.getElem_append_right (Nat.le_refl _), List.getElem_append_right (by have := h.1; omega)]
    simp only [Nat.sub_self, List.getElem_cons_zero, h.1]
    exact ⟨h1, h2, h3⟩
theorem filterMap_take {α β : Type} (f : α → Option β) (l : List α) (i : Nat) (h : i < l.length) : (l.take (i + 1)).filterMap f = (l.take i).filterMap f ++ (f l[i]).toList := by
  rw [List.take_succ_eq_append_getElem h, List.filterMap_append]
  cases e : f l[i] <;> simp [e]
/-- A slice of strings. -/
def StrsAt (w : World) (v : Value) (ks : List Key) : Prop := ∃ ao cap, v = .slice ao ks.length cap ∧ ∀ i (h : i < ks.length), ∃ b o, ao = some ⟨b, o, none⟩ ∧ ∀ W, Touch (fun _ => False) w W → W.cell? ⟨b, o + i, none⟩ = some (.string (strK ks[i]))
theorem strs_of {w : World} {B : Nat} {v : Value} {ks : List Key} (h : w.ownsRow B 9 1 v ks.length (ks.map encStr)) : StrsAt w v ks := by
  rcases h.2 with ⟨e, h0⟩ | ⟨g, cap, cur, e, hb, hg, q1, q2, q3, q4⟩
  · refine ⟨none, 0, by rw [e, h0], fun i hi => by omega⟩
  · refine ⟨_, cap, e, fun i hi => ⟨g, 0, rfl, fun W t => ?_⟩⟩
    have hcell : w.cell? ⟨g, 0 + i, none⟩ = some (.string (strK ks[i])) := by
      rw [Nat.zero_add, cell_of_block hg, ← Array.getElem?_toList]
      have : (ks.map encStr)[i]? = some (encStr ks[i]) := by simp [hi]
      rw [← q4, List.getElem?_take, if_pos (by omega)] at this
      exact this
    rw [World.cell?_of_block (t.block g (lt_of_heap hg) id)]
    exact hcell
theorem sorted_rising {α : Type} (es : List (Key × α)) (h : Rising es) {ss : List Key} (hs : ss.Perm (es.map (·.1))) : ss.mergeSort (fun x y => decide (x ≤ y)) = es.map (·.1) := by
  have e : ss.mergeSort leB = (es.map (·.1)).mergeSort leB := mergeSort_of_perm hs
  refine e.trans (List.mergeSort_of_pairwise ?_)
  refine List.pairwise_map.2 (h.imp fun {p q} hpq => ?_)
  simp only [leB, decide_eq_true_eq]
  exact List.le_of_lt (before_lt _ _ hpq)
theorem touch_belowM {w w' : World} (h : Below w.heap.size w w') : Touch (fun _ => False) w w' := ⟨h.os, h.tape, h.output, h.size, fun k hk _ => h.block k hk⟩
theorem sortedKeys_some {b n : Nat} {es : List (Key × Value)} (w : World) (hown : RanksAt w b n es) (hr : Rising es) (hn : es.length ≤ 1000000) :
    Calls Tryz.prog 60 #[.func (.func 77) #[] #[.pointer (some ⟨w.heap.size, 0, none⟩)]] (w.alloc (.cells #[.map (some b)] 63)) fun e w' => ∃ v, e = .returned v ∧ StrsAt w' v (es.map (·.1)) ∧ Touch (fun _ => False) w w' := by
  refine (callsIn_wide.1 (Tryz.slices_Sorted_keys_60_61 b n (toV es) heldO w hown (by rw [toV_size]; unfold maxLen; omega) (by rw [toV_size]; omega))).mono ?_
  rintro e w' ⟨v, ss, rfl, hS, hrow, hnil, hb⟩
  rw [toV_keys] at hS
  rw [sorted_rising es hr hS, hS.length_eq] at hrow
  exact ⟨v, rfl, strs_of hrow, ((Touch.refl _ w).alloc _).trans (touch_belowM hb)⟩
theorem sortedKeys_none (w : World) :
    Calls Tryz.prog 60 #[.func (.func 77) #[] #[.pointer (some ⟨w.heap.size, 0, none⟩)]] (w.alloc (.cells #[.map none] 63)) fun e w' => ∃ v, e = .returned v ∧ StrsAt w' v [] ∧ Touch (fun _ => False) w w' := by
  refine (callsIn_wide.1 (Tryz.slices_Sorted_keys_nil_60_61 w)).mono ?_
  rintro e w' ⟨v, ss, rfl, rfl, hrow, hnil, hb⟩
  have : StrsAt w' v [] := strs_of (by simpa using hrow)
  exact ⟨v, rfl, this, ((Touch.refl _ w).alloc _).trans (touch_belowM hb)⟩
section
variable {w : World} {g mt mk : Nat} {hv : Value} {os : List (Key × Inn)} {s : MS}
/-- A map's lookup, and its sorted keys. -/
theorem MapsC.sorted (h : MapsC w g mt mk hv os s) {c k : Int} (hc : U64 c) (hk : U64 k) (hn : (keysS s c k).length ≤ 1000000) : ∃ m : Option Nat, ∀ W, Touch (fun _ => False) w W →
    (Instr.lookup 64 (.map (some mk)) (idV c k) false).run Tryz.prog W = .ok (.map m) W ∧
    Calls Tryz.prog 60 #[.func (.func 77) #[] #[.pointer (some ⟨W.heap.size, 0, none⟩)]] (W.alloc (.cells #[.map m] 63)) fun e w' => ∃ v, e = .returned v ∧ StrsAt w' v (keysS s c k) ∧ Touch (fun _ => False) W w' := by
  have hkk : keysS s c k = (((aget (kI c k) os).map innL).getD []).map (·.1) := by unfold keysS; rw [h.getK]
  cases e : aget (kI c k) os with
  | none =>
    rw [e] at hkk
    have hk2 : keysS s c k = [] := hkk
    refine ⟨none, fun W t => ⟨?_, ?_⟩⟩
    · have := keys_look (h.quiet t).keys hc hk
      rw [aget_amap, e] at this; exact this
    · rw [hk2]; exact sortedKeys_none W
  | some i =>
    rw [e] at hkk
    have hk2 : keysS s c k = (amap Rk.v i.es).map (·.1) := by
      rw [hkk]
      show (amap Rk.l i.es).map (·.1) = _
      simp [amap]
    have hlen : (amap Rk.v i.es).length ≤ 1000000 := by
      have := congrArg List.length hk2
      rw [List.length_map] at this
      omega
    refine ⟨some i.b, fun W t => ⟨?_, ?_⟩⟩
    · have := keys_look (h.quiet t).keys hc hk
      rw [aget_amap, e] at this; exact this
    · rw [hk2]
      have hI := (h.quiet t).inn _ (aget_mem e)
      exact sortedKeys_some W hI.owns (hI.rising.amap _) hlen
end
end Go.Proofs.YtodpdcflbnomgaaGreat
