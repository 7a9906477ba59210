/- An Update among a law's arguments. -/
import Derived.Test.YtlhdjdnflpilbaaGreatDoorH49
import Derived.Test.YtlhdjdnflpilbaaGreatDoorH06
namespace Go.Proofs.YtlhdjdnflpilbaaGreatDoor.Upd
open Go.ChangeShapes Go.WideShapes Go.ChangeAt Go.RowKit Go.Joins Mem Segm Oct Att PR
theorem array11 {α : Type} {cs : Array α} (h : cs.size = 11) : ∃ c0 c1 c2 c3 c4 c5 c6 c7 c8 c9 c10, cs = #[c0, c1, c2, c3, c4, c5, c6, c7, c8, c9, c10] := by
 obtain ⟨l⟩ := cs
 match l, h with
 | [c0, c1, c2, c3, c4, c5, c6, c7, c8, c9, c10], _ => exact ⟨c0, c1, c2, c3, c4, c5, c6, c7, c8, c9, c10, rfl⟩
theorem cells11 : Tryz.prog.cellsOf 29 = 11 := by kernel_rfl
set_option maxRecDepth 100000 in
theorem open_upd {H : Type} {enc : TypeId × Value → H} {W : World} {base : Nat} {v : Value} {d : DataW H} {p : List MemPlace}
  (hv : Value.okWide Tryz.prog W .any base 29 v) (h : DataW.Trod enc Tryz.prog W 0 (fun _ => true) true 29 v d p) (hlt : ∀ x ∈ p, x.block < W.heap.size) : ∃ u, Upds W v u := by
 obtain ⟨cs, rfl, hsz⟩ := okWide_struct Tryz.underlying29 hv
 obtain ⟨c0, c1, c2, c3, c4, c5, c6, c7, c8, c9, c10, rfl⟩ := array11 (hsz.trans cells11)
 obtain ⟨fuel, hf⟩ := h
 obtain ⟨xs, n, _, hx, _, hl, hfs⟩ := DataW.trod_struct Tryz.underlying29 hf
 simp only [Prod.mk.injEq] at hx
 have hl3 : xs.length = 3 := hl
 have hin : ∀ (i : Nat) (y : DataW H × List MemPlace), xs[i]? = some y → ∀ z ∈ y.2, z.block < W.heap.size := fun i y hy z hz => hlt z (by rw [hx.2]; exact List.mem_flatMap.2 ⟨y, List.mem_of_getElem? hy, hz⟩)
 obtain ⟨y0, e0⟩ : ∃ y, xs[0]? = some y := ⟨_, List.getElem?_eq_getElem (by omega)⟩
 have k0 : DataW.trod enc Tryz.prog W 0 (fun _ => true) true n 22 [c0] = some y0 := (hfs 0 _ rfl).trans e0
 obtain ⟨y1, e1⟩ : ∃ y, xs[1]? = some y := ⟨_, List.getElem?_eq_getElem (by omega)⟩
 have k1 : DataW.trod enc Tryz.prog W 0 (fun _ => true) true n 27 [c1, c2, c3, c4, c5, c6, c7, c8, c9] = some y1 := (hfs 1 _ rfl).trans e1
 obtain ⟨y2, e2⟩ : ∃ y, xs[2]? = some y := ⟨_, List.getElem?_eq_getElem (by omega)⟩
 have k2 : DataW.trod enc Tryz.prog W 0 (fun _ => true) true n 22 [c10] = some y2 := (hfs 2 _ rfl).trans e2
 obtain ⟨lg, hg⟩ := PR.trod_pfxs k0 (hin 0 y0 e0)
 obtain ⟨a, ha⟩ := Att.trod_attrs k1 (hin 1 y1 e1)
 obtain ⟨lh, hh⟩ := PR.trod_pfxs k2 (hin 2 y2 e2)
 obtain ⟨h1, vp, vc, h2, h3⟩ := ha
 injection h2 with h2
 have q0 : (⟨[c1, c2, c3, c4, c5, c6, c7, c8, c9]⟩ : Array Value).toList = _ := congrArg Array.toList h2
 simp only [acells, List.cons.injEq, and_true] at q0
 obtain ⟨rfl, rfl, rfl, rfl, rfl, rfl, rfl, rfl, rfl⟩ := q0
 exact ⟨⟨lg, a, lh⟩, _, _, _, _, rfl, hg, ⟨h1, _, _, rfl, h3⟩, hh⟩
end Go.Proofs.YtlhdjdnflpilbaaGreatDoor.Upd
