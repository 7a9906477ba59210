/- An Open among a law's arguments. -/
import Derived.Test.YtkkfnpacejdlnaaOpnFun
import Derived.Test.YtkkfnpacejdlnaaLawFrameB
import Derived.Lib.SmallJoins
namespace Go.Proofs.Ytkkfnpacejdlnaa.Opn
open Go.ChangeShapes Go.WideShapes Go.ChangeAt Go.RowKit Go.Joins Mem

theorem nat_of {x : Int} (h : (Lit.int .u32 x).wf = true) : ∃ k : Nat, x = (k : Int) ∧ k < 4294967296 := by
  have hb := bounds_u32 h
  obtain ⟨k, rfl⟩ := Int.eq_ofNat_of_zero_le hb.1
  exact ⟨k, rfl, by omega⟩
set_option maxRecDepth 100000 in
theorem open_open {H : Type} {enc : TypeId × Value → H} {W : World} {base : Nat} {v : Value} {d : DataW H} {p : List MemPlace}
    (hv : Value.okWide Try.prog W .any base 24 v) (h : DataW.Trod enc Try.prog W 0 (fun _ => true) true 24 v d p) : ∃ o : Op, o.ok ∧ v = opn o := by
  obtain ⟨c0, c1, c2, c3, y0, y1, y2, y3, n, rfl, _, _, h0, h1, h2, h3⟩ := open_agg4 Try.underlying24 (by kernel_rfl) (by kernel_rfl) hv h
  obtain ⟨a, e0, _, w0⟩ := DataW.trod_int Try.underlying22 h0
  obtain ⟨hd, e1, _, w1⟩ := DataW.trod_int Try.underlying3 h1
  obtain ⟨r, e2, _, w2⟩ := DataW.trod_int Try.underlying22 h2
  obtain ⟨f, e3, _⟩ := DataW.trod_bool Try.underlying4 h3
  injection e0 with e0
  injection e1 with e1
  injection e2 with e2
  injection e3 with e3
  obtain ⟨a, rfl, ha⟩ := nat_of w0
  obtain ⟨r, rfl, hr⟩ := nat_of w2
  exact ⟨⟨a, hd, r, f⟩, ⟨ha, w1, hr⟩, by rw [e0, e1, e2, e3]; rfl⟩
end Go.Proofs.Ytkkfnpacejdlnaa.Opn
