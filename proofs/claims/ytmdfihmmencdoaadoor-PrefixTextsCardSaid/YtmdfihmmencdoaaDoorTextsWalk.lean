/- PrefixTexts: the law's walk, whole: the text of any prefix and address, and which texts are one. -/
import Derived.Test.YtmdfihmmencdoaaDoorTextsGood
import Derived.Test.YtmdfihmmencdoaaDoorTextsBad
import Derived.WalkSmall
namespace Go.Proofs.YtmdfihmmencdoaaDoor.Pfx
open Go.RowKit Go.Sort

theorem below_grow (w : World) (n : Nat) (os : Array Obj) : Below w.heap.size w (grow (w.drewN n) os) :=
  Below.tr (below_drewN (Below.refl _ _) n) ⟨rfl, rfl, rfl, by simp [grow], fun k hk => by
    have hk2 : k < w.heap.size := hk
    simp [grow, Array.getElem?_append, hk2]⟩
theorem gPow : Tryd.prog.globalNamed "internal/strconv.uint64pow10" = some 1 := by kernel_rfl
/-- With its table Itoa writes every byte's digits. -/
theorem itoa_ok (a : Nat) (w : World) (hT : Lib.TabIs Tryd.prog w "internal/strconv.uint64pow10" .u64 Lib.pow10Tab) : ItoaOk a w := by
  intro j _ W hW
  have hl := byteN_lt a j
  have hc := hT.cell gPow 0 (by rw [Lib.pow10Tab_length]; decide)
  have hT2 : Lib.TabIs Tryd.prog W "internal/strconv.uint64pow10" .u64 Lib.pow10Tab := var?_below hW gPow (block_lt_of_cell hc) hT
  refine (Tryd.strconv_Itoa (byteN a j) (by omega) (by omega) W hT2).mono fun e w' ⟨he, n, os, hn⟩ => ⟨?_, hn ▸ below_grow W n os⟩
  rw [he, dec_itoa]; rfl

theorem parse_empty : parseT [] = none := by
  have h : Lib.cut [] [47] = ([], [], false) := cut_none (by simp)
  have h2 : Lib.cut [] [46] = ([], [], false) := cut_none (by simp)
  unfold parseT
  rw [h]
  simp only
  rw [stepAddr, h2]
  rfl
theorem toList_ne {l m : List UInt8} (h : l ≠ m) : ¬ (strOf l).toList = (strOf m).toList := by
  rw [Lib.toList_data, Lib.toList_data]
  simpa [strOf] using h

/-- The text that the law goes on with: of a long one its first sixty signs. -/
theorem piece (s : ByteArray) : ∃ l : List UInt8, l.length ≤ 60 ∧ ((s.size ≤ 60 ∧ s = strOf l) ∨ (60 < s.size ∧ s.extract 0 60 = strOf l)) := by
  by_cases h : s.size ≤ 60
  · exact ⟨s.data.toList, by rw [← size_list]; exact h, .inl ⟨h, by unfold strOf; simp⟩⟩
  · refine ⟨s.data.toList.take 60, by simp; omega, .inr ⟨by omega, ?_⟩⟩
    have := Lib.extract_data s 0 60
    apply ByteArray.ext
    apply Array.ext'
    rw [this]
    simp [strOf]

theorem texts_walk (pa : Nat) (pn : Int) (s : ByteArray) (hpa : pa < 4294967296) (w : World) (hT : Lib.TabIs Tryd.prog w "internal/strconv.uint64pow10" .u64 Lib.pow10Tab) (hS : w.ShapedOpen Tryd.prog) :
    Calls Tryd.prog 6 #[.agg #[.int .u32 pa, .int .i64 pn], .string s] w fun e w' => e = .returned (.bool true) ∧ Below w.heap.size w w' := by
  obtain ⟨m, hm⟩ := Tryd.laysM145.s1_3 w hS
  have hI := itoa_ok pa w hT
  have hIB : ∀ W, Below w.heap.size w W → ItoaOk pa W := fun W hW j hj W' hW' => hI j hj W' (Below.tr hW hW')
  obtain ⟨l, hl, hs⟩ := piece s
  have hA : (addrT pa).length ≤ 16 := addrPre_len pa 4
  have CAd := Go.Lib.hid (fun W hW => addr_any pa hpa W (hIB W hW))
  have hpa2 := fun W hW => parseAddr_any (addrT pa) m W (by omega) (keeps (w1 := W) hW hm)
  rw [parseAddr_back pa hpa] at hpa2
  have CPA := Go.Lib.hid hpa2
  have CRA := Go.Lib.hid (fun W (_ : Below w.heap.size w W) => same_below (refAddr_any pa hpa) W)
  have CL := Go.Lib.hid (fun W (_ : Below w.heap.size w W) => lives_any W)
  have hP2 := fun W hW => parse_any l m W (by omega) (keeps (w1 := W) hW hm)
  have hA2 := fun W hW => parseAddr_any l m W (by omega) (keeps (w1 := W) hW hm)
  cases hg : goodB pa pn
  · have CT := Go.Lib.hid (fun W (_ : Below w.heap.size w W) => text_bad pa pn hpa hg W)
    have CRT := Go.Lib.hid (fun W (_ : Below w.heap.size w W) => refText_bad pa pn hpa hg W)
    have CRG := Go.Lib.hid (fun W (_ : Below w.heap.size w W) => hg ▸ refGood_any pa pn hpa W)
    have hP := fun W hW => parse_any [] m W (by simp) (keeps (w1 := W) hW hm)
    rw [parse_empty] at hP
    have CP := Go.Lib.hid hP
    cases hp : parseT l with
    | some x =>
      obtain ⟨xa, xn⟩ := x
      obtain ⟨h1, h2, h3, h4⟩ := parse_sound hp
      have hgx : goodB xa (xn : Int) = true := by rw [goodB_in h2]; exact decide_eq_true h3
      have CRT2 := Go.Lib.hid (fun W (_ : Below w.heap.size w W) => refText_good xa xn h1 h2 hgx W)
      rw [← h4] at CRT2
      cases ha : stepAddr 4 l 0 with
      | some b =>
        exfalso
        obtain ⟨_, h6⟩ := parseAddr_sound ha
        exact addr_no_slash b (by rw [← h6, h4]; simp [textT])
      | none =>
        have hSA : l ≠ addrT pa := fun e => by rw [e, parseAddr_back pa hpa] at ha; cases ha
        rw [hp] at hP2
        rw [ha] at hA2
        exact texts_bad_prefix pa pn xa xn s (strOf l) (strOf []) (strOf (addrT pa)) w CT CP CAd CPA CRT CRA CRG (Go.Lib.hid hP2) (Go.Lib.hid hA2) CRT2 CL (Go.Lib.hid (toList_ne hSA)) (Go.Lib.hid hs)
    | none =>
      rw [hp] at hP2
      cases ha : stepAddr 4 l 0 with
      | some b =>
        obtain ⟨h5, h6⟩ := parseAddr_sound ha
        have CRA2 := Go.Lib.hid (fun W (_ : Below w.heap.size w W) => same_below (refAddr_any b h5) W)
        rw [← h6] at CRA2
        rw [ha] at hA2
        exact texts_bad_addr pa pn b s (strOf l) (strOf []) (strOf (addrT pa)) w CT CP CAd CPA CRT CRA CRG (Go.Lib.hid hP2) (Go.Lib.hid hA2) CRA2 CL (Go.Lib.hid hs)
      | none =>
        have hSA : l ≠ addrT pa := fun e => by rw [e, parseAddr_back pa hpa] at ha; cases ha
        rw [ha] at hA2
        exact texts_bad_none pa pn s (strOf l) (strOf []) (strOf (addrT pa)) w CT CP CAd CPA CRT CRA CRG (Go.Lib.hid hP2) (Go.Lib.hid hA2) CL (Go.Lib.hid (toList_ne hSA)) (Go.Lib.hid hs)
  · have hlen := goodB_len hg
    obtain ⟨k, rfl⟩ := Int.eq_ofNat_of_zero_le hlen.1
    have hk : k ≤ 32 := by omega
    have hcut := goodB_cut hg
    have hTl := textT_len pa k hk
    have CT := Go.Lib.hid (fun W hW => text_good pa k hpa hk hg W (hIB W hW))
    have CRT := Go.Lib.hid (fun W (_ : Below w.heap.size w W) => refText_good pa k hpa hk hg W)
    have CRG := Go.Lib.hid (fun W (_ : Below w.heap.size w W) => hg ▸ refGood_any pa (k : Int) hpa W)
    have hP := fun W hW => parse_any (textT pa k) m W (by omega) (keeps (w1 := W) hW hm)
    rw [parse_back hpa hk hcut] at hP
    have CP := Go.Lib.hid hP
    cases hp : parseT l with
    | some x =>
      obtain ⟨xa, xn⟩ := x
      obtain ⟨h1, h2, h3, h4⟩ := parse_sound hp
      have hgx : goodB xa (xn : Int) = true := by rw [goodB_in h2]; exact decide_eq_true h3
      have CRT2 := Go.Lib.hid (fun W (_ : Below w.heap.size w W) => refText_good xa xn h1 h2 hgx W)
      rw [← h4] at CRT2
      cases ha : stepAddr 4 l 0 with
      | some b =>
        exfalso
        obtain ⟨_, h6⟩ := parseAddr_sound ha
        exact addr_no_slash b (by rw [← h6, h4]; simp [textT])
      | none =>
        have hSA : l ≠ addrT pa := fun e => by rw [e, parseAddr_back pa hpa] at ha; cases ha
        rw [hp] at hP2
        rw [ha] at hA2
        exact texts_good_prefix pa k xa xn s (strOf l) (strOf (textT pa k)) (strOf (addrT pa)) w CT CP CAd CPA CRT CRA CRG (Go.Lib.hid hP2) (Go.Lib.hid hA2) CRT2 CL (Go.Lib.hid (toList_ne hSA)) (Go.Lib.hid hs)
    | none =>
      have hST : l ≠ textT pa k := fun e => by rw [e, parse_back hpa hk hcut] at hp; cases hp
      rw [hp] at hP2
      cases ha : stepAddr 4 l 0 with
      | some b =>
        obtain ⟨h5, h6⟩ := parseAddr_sound ha
        have CRA2 := Go.Lib.hid (fun W (_ : Below w.heap.size w W) => same_below (refAddr_any b h5) W)
        rw [← h6] at CRA2
        rw [ha] at hA2
        exact texts_good_addr pa k b s (strOf l) (strOf (textT pa k)) (strOf (addrT pa)) w CT CP CAd CPA CRT CRA CRG (Go.Lib.hid hP2) (Go.Lib.hid hA2) CRA2 CL (Go.Lib.hid (toList_ne hST)) (Go.Lib.hid hs)
      | none =>
        have hSA : l ≠ addrT pa := fun e => by rw [e, parseAddr_back pa hpa] at ha; cases ha
        rw [ha] at hA2
        exact texts_good_none pa k s (strOf l) (strOf (textT pa k)) (strOf (addrT pa)) w CT CP CAd CPA CRT CRA CRG (Go.Lib.hid hP2) (Go.Lib.hid hA2) CL (Go.Lib.hid (toList_ne hST)) (Go.Lib.hid (toList_ne hSA)) (Go.Lib.hid hs)

end Go.Proofs.YtmdfihmmencdoaaDoor.Pfx
