/- The program's disk and the document's, side by side, in one state. -/
import Derived.Test.YtfmpbkdmcgkeoaaRefS
import Derived.Test.YtfmpbkdmcgkeoaaPart7
import Derived.Test.YtfmpbkdmcgkeoaaLiveD
import Derived.Test.YtfmpbkdmcgkeoaaPart9
import Derived.Test.YtfmpbkdmcgkeoaaPart1
import Derived.Test.YtfmpbkdmcgkeoaaProg
import Derived.ProofKit
import Derived.OpenShut
import Derived.SizedLaws
namespace Go.Proofs.Ytfmpbkdmcgkeoaa
open Go.RowKit Go.Maps
set_option linter.unusedVariables false

theorem RLive.keep {w w' : World} {r : Nat} {G S : Nat → Prop} {s : St} (h : RLive w r G s) (t : Touch S w w') (hS : ∀ k, G k → ¬ S k) : RLive w' r G s := by
  obtain ⟨v, l, hC, hfs, hG, hGl⟩ := h
  refine ⟨v, l, ⟨?_, ?_, hC.ne, fun f hf => ?_, hC.room0, hC.room1, hC.pow0, hC.pow1⟩, hfs, hG, fun k hk => Nat.lt_of_lt_of_le (hGl k hk) t.size⟩
  · exact (t.block r (lt_of_heap hC.cells) (hS r (hG r (.inl rfl)))).trans hC.cells
  · exact rrow_touch hC.owns t (fun k hk => hS k (hG k (.inr (.inl hk))))
  · have ho := hC.ok f hf
    exact ⟨ho.lies.keep fun e => t.block f.g (ho.lies.lt e) (hS f.g (hG f.g (.inr (.inr ⟨f, hf, e, rfl⟩)))), ho.off, ho.none, ho.le, ho.cap, ho.syn, ho.len, ho.name⟩
theorem RLive.lt {w : World} {r : Nat} {G : Nat → Prop} {s : St} (h : RLive w r G s) {k : Nat} (hk : G k) : k < w.heap.size := by
  obtain ⟨_, _, _, _, _, hGl⟩ := h
  exact hGl k hk
theorem RLive.own {w : World} {r : Nat} {G : Nat → Prop} {s : St} (h : RLive w r G s) : G r := by
  obtain ⟨_, _, _, _, hG, _⟩ := h
  exact hG r (.inl rfl)
theorem Live.rising {w0 w : World} {d : Nat} {F : Nat → Prop} {s : St} (h : Live w0 w d F s) : Rising s.fs := by
  obtain ⟨m, es, hC, hR, hfs, hF, hFl⟩ := h.disk
  exact rising_abs hC.rising hfs
/-- The program's disk d in the state s, the document's r in the state s2, apart, both made since w0. -/
structure Duo (w0 w : World) (d r : Nat) (F G : Nat → Prop) (s s2 : St) : Prop where
  live : Live w0 w d F s
  ref : RLive w r G s2
  new : ∀ k, G k → w0.heap.size ≤ k
  apart : ∀ k, F k → ¬ G k
abbrev Pair (w0 w : World) (d r : Nat) (F G : Nat → Prop) (s : St) : Prop := Duo w0 w d r F G s s
section
variable {w0 w w' : World} {d r : Nat} {F G : Nat → Prop} {s s2 s' : St}
theorem Duo.touch (h : Duo w0 w d r F G s s2) (t : Touch (fun _ => False) w w') : Duo w0 w' d r F G s s2 :=
  ⟨h.live.touch t, h.ref.keep t fun _ _ => id, h.new, h.apart⟩
theorem Duo.fst (h : Duo w0 w d r F G s s2) (hP : LPost w0 d F s' w w') : ∃ F', Duo w0 w' d r F' G s' s2 := by
  obtain ⟨F', hl, hs⟩ := hP
  refine ⟨F', hl, h.ref.keep hs.touch fun k hk hf => h.apart k hf hk, h.new, fun k hk hg => ?_⟩
  have hlt := h.ref.lt hg
  exact h.apart k (hs.foot k hlt hk) hg
theorem Duo.snd (h : Duo w0 w d r F G s s2) (hP : RPost r G s' w w') : ∃ G', Duo w0 w' d r F G' s s' := by
  obtain ⟨G', hl, t, hg⟩ := hP
  have hrF : ¬ F r := fun hf => h.apart r hf h.ref.own
  refine ⟨G', ⟨?_, ?_, h.live.new⟩, hl, fun k hk => ?_, fun k hk hg' => ?_⟩
  · exact h.live.disk.touch t fun k hk e => hrF (e ▸ hk)
  · exact h.live.since.then t fun k hk e => by
      have := h.new r h.ref.own
      omega
  · rcases Nat.lt_or_ge k w.heap.size with x | x
    · exact h.new k (hg k x hk)
    · exact Nat.le_trans h.live.since.size x
  · have hlt := h.live.disk.lt hk
    exact h.apart k hk (hg k hlt hg')
/-- A block of w0 is none of theirs. -/
theorem Duo.old (h : Duo w0 w d r F G s s2) {g : Nat} (hg : g < w0.heap.size) : ¬ F g ∧ ¬ G g :=
  ⟨fun x => Nat.lt_irrefl g (Nat.lt_of_lt_of_le hg (h.live.new g x)), fun x => Nat.lt_irrefl g (Nat.lt_of_lt_of_le hg (h.new g x))⟩
end
end Go.Proofs.Ytfmpbkdmcgkeoaa

/- Arguments that are slices of bytes: where their bytes lie, how long they are. -/
namespace Go.Proofs.Ytfmpbkdmcgkeoaa
open Go.ChangeShapes Go.WideShapes Go.ChangeAt Go.RowKit
set_option linter.unusedVariables false

/-- A slice of bytes that came in. -/
structure BytesIn {H : Type} (w : World) (d : DataW H) (ao : Option Addr) (n cap g : Nat) (bs : List UInt8) : Prop where
  len : n = bs.length
  none : ao = none → cap = 0
  lies : Lies w g ao bs
  le : bs.length ≤ cap
  max : cap ≤ maxLen
  size : n = 0 ∨ ∃ el sp, d = .slice el sp ∧ el.length = n

theorem bytesIn_of {H : Type} {enc : TypeId × Value → H} {P : Program} {w : World} {base : Nat} {held : Bool} {t e : TypeId} {fuel n cap : Nat} {ao : Option Addr} {x : DataW H × List MemPlace}
    (ht : P.underlying t = some (.slice e)) (he : P.underlying e = some (.int .u8)) (hc : P.cellsOf e = 1)
    (h : DataW.trod enc P w base (fun _ => true) held fuel t (Value.slice ao n cap).cells.toList = some x) : ∃ g bs, BytesIn w x.1 ao n cap g bs := by
  rcases open_ints ht he hc h with ⟨hcs, hx⟩ | ⟨a, l, c, zs, hcs, _, hl, hm, hz, hx, hcell, hwz⟩
  · simp [Value.cells] at hcs
    obtain ⟨rfl, rfl, rfl⟩ := hcs
    exact ⟨0, [], rfl, fun _ => rfl, .inl rfl, Nat.le_refl _, by simp [maxLen], .inl rfl⟩
  · simp [Value.cells] at hcs
    obtain ⟨rfl, rfl, rfl⟩ := hcs
    simp only [if_true] at hz
    refine ⟨a.block, (zs.take n).map (fun z => UInt8.ofNat z.toNat), by simp; omega, (by intro h; cases h), ?_, by simp; omega, hm, .inr ⟨_, _, congrArg Prod.fst hx, by simp [lits]; omega⟩⟩
    by_cases hn : n = 0
    · subst hn; exact .inl (by simp)
    · have h0 : w.cell? (a.add 0) = some (.int .u8 (zs.getD 0 0)) := hcell 0 (by omega)
      obtain ⟨b, off, rfl, _⟩ : ∃ b off, a = ⟨b, off, none⟩ ∧ True := by
        obtain ⟨b, off, spot⟩ := a
        cases spot with
        | none => exact ⟨b, off, rfl, trivial⟩
        | some s => exfalso; simp [World.cell?, Addr.add] at h0; split at h0 <;> simp_all
      refine .inr ⟨off, rfl, fun j hj => ?_⟩
      simp at hj
      have e2 : (⟨b, off, none⟩ : Addr).add j = ⟨b, off + j, none⟩ := by unfold Addr.add; split <;> simp_all
      have hj2 : j < zs.length := by omega
      rw [← e2, hcell j hj2]
      have hw := hwz (zs.getD j 0) (by simp [List.getD, List.getElem?_eq_getElem hj2])
      simp [Lit.wf, IntKind.min, IntKind.max, IntKind.signed, IntKind.bits] at hw
      simp [List.getElem?_eq_getElem hj2] at hw ⊢
      omega

theorem bytesIn_len {H : Type} {P : Program} {w : World} {d : DataW H} {ao : Option Addr} {n cap g : Nat} {bs : List UInt8} (h : BytesIn w d ao n cap g bs) {ts : List TypeId} {ds : List (DataW H)} (hz : (DataW.weightsEach P ts ds).all (· ≤ reachBytes) = true) {j : Nat} {t e : TypeId} (ht : ts[j]? = some t) (hd : ds[j]? = some d) (hu : P.underlying t = some (.slice e)) (hb : P.bytesOf e = 1) : bs.length ≤ 140737488355328 := by
  have hl := h.len
  rcases h.size with h0 | ⟨el, sp, rfl, he⟩
  · omega
  · have := sized_slice hz ht hd hu
    have hr := reachBytes_lt
    rw [hb] at this
    omega
end Go.Proofs.Ytfmpbkdmcgkeoaa
