/- CommApart: the law's walk: unlike communities have unlike texts. -/
import Derived.Test.YtdgfnnjcpoklfaaDoorComm
namespace Go.Proofs.YtdgfnnjcpoklfaaDoor.Com
open Go.RowKit Go.Sort Mem Rise Pfx Dec Nums

set_option maxRecDepth 100000 in
theorem apart_walk (a b : Nat) (w : World) (ha : a < 4294967296) (hb : b < 4294967296) (hT : Powers w) :
    Calls Tryd.prog 7 #[.int .u32 a, .int .u32 b] w (Tells (.bool true) w) := by
  have hE : ((strOf (ctext a)).toList == (strOf (ctext b)).toList) = ((a : Int) == (b : Int)) := by
    rw [str_eq]
    by_cases h : a = b
    · subst h; simp
    · rw [decide_eq_false fun e => h (ctext_inj ha hb e)]
      simp; omega
  have C1 := Go.Lib.hid (text_any a ha w hT)
  have C2 := Go.Lib.hid (fun W (h : Powers W) => text_any b hb W h)
  have CL := Go.Lib.hid lives_any
  generalize strOf (ctext a) = s at hE C1
  generalize strOf (ctext b) = t at hE C2
  have HE := Go.Lib.hid hE
  have HT := Go.Lib.hid hT
  clear hE hT ha hb
  cases hq : ((a : Int) == (b : Int)) <;> rw [hq] at HE <;> (have hs := HE.out)
  all_goals
    go_enter Tryd.func7, Tryd.ntmps7
    go_wp2_with fail
    refine (C1.out).mono ?_
    rintro e w1 ⟨rfl, hb1⟩
    have HT1 := Go.Lib.hid (tab_below HT.out hb1)
    go_wp2_with fail
    refine (C2.out _ HT1.out).mono ?_
    rintro e w2 ⟨rfl, hb2⟩
    have HT2 := Go.Lib.hid (tab_below HT1.out hb2)
    go_wp2_with fail
    refine (CL.out _ HT2.out).mono ?_
    rintro e w3 ⟨rfl, hb3⟩
    go_wp2
    go_ret
    exact ⟨rfl, Below.tr (Below.tr hb1 hb2) hb3⟩
end Go.Proofs.YtdgfnnjcpoklfaaDoor.Com
