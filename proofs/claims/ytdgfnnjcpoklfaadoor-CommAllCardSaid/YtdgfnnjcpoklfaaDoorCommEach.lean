/- comm's each: a text word by word, as Parse reads the words. -/
import Derived.RangeFuncNested
import Derived.RangeFuncBound
import Derived.RangeFuncCalls
import Derived.RangeFuncLeaves
import Derived.RangeFuncBox
import Derived.Shelf.Abstract
import Derived.Shelf.RegionOpen
import Derived.WalkKit
import Derived.OwnWalkIn
import Derived.TacticsInMore
import Derived.LoopNIn
import Derived.LoopIn
import Derived.Maps.AppendAt
import Derived.Test.YtdgfnnjcpoklfaaDoorCommSets
namespace Go.Proofs.YtdgfnnjcpoklfaaDoor.Com
open Go.RowKit Go.Shelf Mem Rise Pfx Dec Nums

attribute [local go_sem] Oper.semAt_some

/-- What a round is handed of a word. -/
def codeOf (x : Option Nat) : Nat := x.getD 0
def errOf (x : Option Nat) : Int := if x.isSome then 0 else 2
theorem creadV_eq (x : Option Nat) : creadV x = .tuple #[.int .u32 (codeOf x), .int .i64 (errOf x)] := by cases x <;> rfl
abbrev encR (x : Option Nat) : Array Value := #[.int .u32 (codeOf x), .int .i64 (errOf x)]

theorem ahead_of_below {B : Nat} {W W' : World} {β : Type} {J : β → World → Prop} (hJ : AbidesFrom B J) {s : β} (hs : J s W) (h : Below W.heap.size W W') : J s W' :=
  hJ s W W' none hs ⟨h.os, h.tape, h.output, h.size, fun k hk _ => h.block k hk⟩ (fun r e => by cases e)

theorem each_any (s : List UInt8) (w : World) : Calls Tryd.prog 44 #[.string (strOf s)] w fun e w' => e = .returned (.func (.func 57) #[] #[.pointer (some ⟨w.heap.size, 0, none⟩)]) ∧ w' = w.alloc (.cells #[.string (strOf s)] 9) := by
  have hmf : ∀ (fn : Fn) (first cap : Array Value) (w : World), (Instr.makeFunc fn first cap).run Tryd.prog w = .ok (.func fn first cap) w := fun _ _ _ _ => rfl
  go_enter Tryd.func44, Tryd.ntmps44
  go_wp2
  go_ret
  exact ⟨rfl, rfl⟩

/-- Where the iterator stands. -/
def Way (s : List UInt8) (pre : List (Option Nat)) (more : Bool) (rest : List UInt8) : Prop := (splitS s).map cread = pre ++ (if more then (splitS rest).map cread else [])

set_option maxRecDepth 100000 in
set_option maxHeartbeats 4000000 in
theorem each1_stops (n : Nat) (s : List UInt8) (hlen : s.length ≤ 1000000) (w0 : World) (hT : Powers w0) (hv : ErrVars w0) (Bn : Nat) (w : World) (hb0 : Below w0.heap.size w0 w) (hBn : Bn < w.heap.size) (hn : 1 ≤ n) (hc : w.cell? ⟨Bn, 0, none⟩ = some (.string (strOf s))) :
    SeqStopsK Fence.wide n Tryd.prog 57 #[.pointer (some ⟨Bn, 0, none⟩)] encR (Below w0.heap.size) (fun ys => ys = (splitS s).map cread) (fun pre => pre <+: (splitS s).map cread) ((splitS s).map cread).length w := fun l J Jx W hW hJ hJx hY h0 => by
  have hcW := (hW.cell (p := ⟨Bn, 0, none⟩) hBn).trans hc
  have hbW : Below w0.heap.size w0 W := hb0.trans (hW.mono hb0.size)
  have HV := Go.Lib.hid (fun (W' : World) (h : Below w0.heap.size w0 W') => hv.keep h)
  have HT := Go.Lib.hid (fun (W' : World) (h : Below w0.heap.size w0 W') => tab_below hT h)
  have CC := Go.Lib.hid @cut_at
  have CP := Go.Lib.hid (fun t (h : t.length ≤ 1000000) (W' : World) h1 h2 => creadV_eq (cread t) ▸ parse_any t h W' h1 h2)
  obtain ⟨xs, hxs⟩ : ∃ xs, xs = (splitS s).map cread := ⟨_, rfl⟩
  rw [← hxs] at hY ⊢
  have HX := Go.Lib.hid hxs
  have HJ := Go.Lib.hid hJ
  have HY := Go.Lib.hid hY
  have HBW := Go.Lib.hid hbW
  clear hxs hJ hJx hY hbW hW hc hb0 hBn hv hT
  refine callsIn_of_wp Tryd.func57 rfl trivial ?_ rfl
  simp only [Tryd.ntmps57, List.size_toArray, List.length_cons, List.length_nil, Nat.reduceAdd, Nat.reduceSub, Array.replicate_succ, Array.replicate_zero, List.push_toArray, List.append_toArray, List.nil_append, List.cons_append]
  gi_wp2
  gi_loopw [3, 4] (fun v3 v4 wr => ∃ (pre : List (Option Nat)) (more : Bool) (rest : List UInt8), v3 = .string (strOf rest) ∧ v4 = .bool more ∧ Hid (Way s pre more rest) ∧ J pre wr ∧ Hid (Below w0.heap.size w0 wr) ∧ rest.length ≤ 1000000)
    (fun v3 v4 _ => match v3, v4 with | .string t, .bool true => t.size + 1 | _, _ => 0)
  case atStart => exact ⟨[], true, s, rfl, rfl, by unfold Hid Way; simp, h0, HBW, hlen⟩
  case round =>
    obtain ⟨pre, more, rest, rfl, rfl, hway, hJs, hbw, hrl⟩ := hrel
    cases more with
    | false =>
      have HW := Go.Lib.hid (show pre = xs by rw [HX.out]; have := hway.out; unfold Way at this; simpa using this.symm)
      gi_wp2
      go_end0
      exact ⟨⟨_, rfl⟩, .inl ⟨pre, HW.out, hJs⟩⟩
    | true =>
      have hway2 : xs = pre ++ (splitS rest).map cread := by rw [HX.out]; have := hway.out; unfold Way at this; simpa using this
      obtain ⟨a, b, r, hcut, hsp, hl⟩ : ∃ a b r, Lib.cut rest [32] = (a, b, r) ∧ splitS rest = a :: (if r then splitS b else []) ∧ a.length ≤ rest.length ∧ (r = true → b.length < rest.length) ∧ b.length ≤ rest.length := by
        rcases cut_blank rest with ⟨a, b, hc, hsp, hl⟩ | ⟨hc, hsp⟩
        · exact ⟨a, b, true, hc, by simpa using hsp, by omega, fun _ => by omega, by omega⟩
        · exact ⟨rest, [], false, hc, by simpa using hsp, Nat.le_refl _, (fun h => by cases h), Nat.zero_le _⟩
      have C1 := Go.Lib.hid (CC.out 32 rest hcut (by omega) wr (HV.out wr hbw.out))
      have C2 := Go.Lib.hid (CP.out a (by omega))
      have HW := Go.Lib.hid (show Way s (pre ++ [cread a]) r b by
        unfold Way
        rw [← HX.out, hway2, hsp]
        cases r <;> simp)
      have HL := Go.Lib.hid (show pre.length < xs.length by rw [hway2, hsp]; simp)
      have HP := Go.Lib.hid (show pre ++ [cread a] <+: xs by rw [hway2, hsp]; exact ⟨((if r then splitS b else []) : List (List UInt8)).map cread, by simp⟩)
      generalize cread a = x at C2 HW HP
      have HB := Go.Lib.hid hl
      clear hway hway2 hcut hsp hl
      gi_wp2_with (first | (refine ⟨trivial, ?_⟩; gi_at_call 55; refine (callsIn_wide.2 C1.out).mono ?_; rintro e w1 ⟨rfl, hb1⟩; have HB1 := Go.Lib.hid (hbw.out.trans (hb1.mono hbw.out.size)); have hJ1 := ahead_of_below HJ.out hJs hb1) | (refine ⟨trivial, ?_⟩; gi_at_call 26; refine (callsIn_wide.2 (C2.out w1 (HT.out _ HB1.out) (HV.out _ HB1.out))).mono ?_; rintro e w2 ⟨rfl, hb2⟩; have HB2 := Go.Lib.hid (HB1.out.trans (hb2.mono HB1.out.size)); have hJ2 := ahead_of_below HJ.out hJ1 hb2; obtain ⟨fn, tmps, assign, body, hy, hR⟩ := HY.out pre x w2 hJ2 HL.out; dsimp only [encR] at hy))
      refine hR.mono ?_
      rintro e w3 (⟨rfl, hJ3, hk3⟩ | ⟨rfl, hJx3⟩)
      · gi_wp2
        go_roundw
        case rel => exact ⟨pre ++ [x], r, b, rfl, rfl, HW, hJ3, Go.Lib.hid (HB2.out.trans hk3), by have := HB.out.2.2; omega⟩
        case measure =>
          have h1 := HB.out.2.1
          have h2 := HB.out.2.2
          cases r <;> simp [strOf_size] at h1 ⊢ <;> omega
      · gi_wp2
        refine bodyPost_ret (results_none rfl _ _ _) rfl ?_
        exact ⟨⟨_, rfl⟩, .inr ⟨pre ++ [x], HP.out, hJx3⟩⟩
end Go.Proofs.YtdgfnnjcpoklfaaDoor.Com
