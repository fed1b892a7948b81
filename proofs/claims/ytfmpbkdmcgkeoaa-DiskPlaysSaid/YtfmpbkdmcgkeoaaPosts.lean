/- What a disk is behind a file's laying. -/
import Derived.Test.YtfmpbkdmcgkeoaaPart2
namespace Go.Proofs.Ytfmpbkdmcgkeoaa
open Go.RowKit Go.Maps
set_option linter.unusedVariables false

/-- Behind a file's laying: es1 is what the disk has besides, fo the file whose row may have been written. -/
theorem laid_post {w w4 : World} {d m n n' : Nat} {es es1 : List (Key × Fl)} {room power : Int} {F : Nat → Prop} {s' : St} {k : Key} {f fo : Fl} (hC : Core w d m n es room power) (hR : RowsOk w es) (hF : ∀ k, foot d m es k → F k)
    (h1 : ∀ p ∈ adel k es1, p ∈ es) (hfo : ∀ i, fo.v.ownBlock = some i → foot d m es i) (hap : ∀ p ∈ adel k es1, ∀ i, fo.v.ownBlock = some i → p.2.v.ownBlock ≠ some i)
    (hC4 : Core w4 d m n' (aput k f es1) s'.room s'.power) (t : Touch (fun i => i = d ∨ i = m ∨ fo.v.ownBlock = some i) w w4) (hrow : w4.ownsRow 0 5 1 f.v f.bs.length (cellsOf f.bs)) (hnew : ∀ i, i < w.heap.size → f.v.ownBlock = some i → fo.v.ownBlock = some i) (hs : s'.fs = aput k f.abs (amap Fl.abs es1)) : DPost d F s' w w4 := by
  refine dpost_of (es := es) hF hC4 ?_ (by rw [hs, amap_aput]) (t.mono ?_) ?_
  · refine RowsOk.put ?_ hrow ?_
    · have h0 : RowsOk w (adel k es1) := ⟨fun p hp => hR.row p (h1 p hp), fun p hp q hq => hR.apart p (h1 p hp) q (h1 q hq)⟩
      refine h0.touch t fun p hp i hi hx => ?_
      obtain ⟨n1, n2⟩ := hC.row_ne (hR.row p (h1 p hp)) hi
      rcases hx with e | e | e
      · exact n1 e
      · exact n2 e
      · exact hap p hp i e hi
    · intro p hp i hi hpi
      obtain ⟨c, hc⟩ := row_lt (hR.row p (h1 p hp)) hpi
      exact hap p hp i (hnew i (lt_of_heap hc) hi) hpi
  · rintro i _ (e | e | e)
    · exact .inl e
    · exact .inr (.inl e)
    · exact hfo i e
  · rintro i hi (e | e | ⟨p, hp, hpi⟩)
    · exact .inl e
    · exact .inr (.inl e)
    · rcases mem_ains.1 hp with rfl | hp
      · exact hfo i (hnew i hi hpi)
      · exact .inr (.inr ⟨p, h1 p hp, hpi⟩)

/-- .. where the file that had the name is laid anew. -/
theorem laid_same {w w4 : World} {d m n n' : Nat} {es : List (Key × Fl)} {room power : Int} {F : Nat → Prop} {s' : St} {k : Key} {f : Fl} (hC : Core w d m n es room power) (hR : RowsOk w es) (hF : ∀ k, foot d m es k → F k)
    (hC4 : Core w4 d m n' (aput k f es) s'.room s'.power) (t : Touch (fun i => i = d ∨ i = m ∨ (getF k es).v.ownBlock = some i) w w4) (hrow : w4.ownsRow 0 5 1 f.v f.bs.length (cellsOf f.bs)) (hnew : ∀ i, i < w.heap.size → f.v.ownBlock = some i → (getF k es).v.ownBlock = some i) (hs : s'.fs = aput k f.abs (amap Fl.abs es)) : DPost d F s' w w4 :=
  laid_post hC hR hF (fun p hp => (mem_adel.1 hp).1) (fun i hi => get_foot hi) (hR.get_apart k) hC4 t hrow hnew hs

theorem del_post {w w4 : World} {d m n n' : Nat} {es : List (Key × Fl)} {room power : Int} {F : Nat → Prop} {s' : St} {k : Key} (hC : Core w d m n es room power) (hR : RowsOk w es) (hF : ∀ k, foot d m es k → F k)
    (hC4 : Core w4 d m n' (adel k es) s'.room s'.power) (t : Touch (fun i => i = d ∨ i = m) w w4) (hs : s'.fs = adel k (amap Fl.abs es)) : DPost d F s' w w4 := by
  refine dpost_of (es := es) hF hC4 ?_ (by rw [hs, amap_adel]) (t.mono ?_) ?_
  · refine (hR.del k).touch t fun p hp i hi hx => ?_
    obtain ⟨n1, n2⟩ := hC.row_ne (hR.row p (mem_adel.1 hp).1) hi
    rcases hx with e | e
    · exact n1 e
    · exact n2 e
  · rintro i _ (e | e)
    · exact .inl e
    · exact .inr (.inl e)
  · rintro i hi (e | e | ⟨p, hp, hpi⟩)
    · exact .inl e
    · exact .inr (.inl e)
    · exact .inr (.inr ⟨p, (mem_adel.1 hp).1, hpi⟩)

/-- A field of the disk was set: nothing else. -/
theorem set_post {w w4 : World} {d m n n' : Nat} {es : List (Key × Fl)} {room power : Int} {F : Nat → Prop} {s' : St} (hC : Core w d m n es room power) (hR : RowsOk w es) (hF : ∀ k, foot d m es k → F k)
    (hC4 : Core w4 d m n' es s'.room s'.power) (t : Touch (fun i => i = d) w w4) (hs : s'.fs = amap Fl.abs es) : DPost d F s' w w4 := by
  refine dpost_of (es := es) hF hC4 (hR.touch t fun p hp i hi hx => (hC.row_ne (hR.row p hp) hi).1 hx) hs (t.mono fun i _ e => .inl e) fun i _ h => h
end Go.Proofs.Ytfmpbkdmcgkeoaa
