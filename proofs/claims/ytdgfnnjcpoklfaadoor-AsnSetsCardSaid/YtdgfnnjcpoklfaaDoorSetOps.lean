/- asn's Union, Minus, With and Without. -/
import Derived.Test.YtdgfnnjcpoklfaaDoorPair
import Derived.Test.YtdgfnnjcpoklfaaDoorSearch
namespace Go.Proofs.YtdgfnnjcpoklfaaDoor.Nums
open Go.RowKit Mem Rise

theorem choose_end {w w1 : World} {g : FuncId} {l : List Nat} (hk : Keeps w1 g w.heap.size (w.heap.size + 1) l) (hb : Below w.heap.size w w1) :
    ∃ kv, w1.cell? ⟨w.heap.size + 1, 0, none⟩ = some kv ∧ Gives32 23 l w (.returned kv) w1 := by
  obtain ⟨kv, _, c2, _, _, _, _, hown⟩ := keeps_parts hk
  refine ⟨kv, c2, kv, rfl, ?_, hb⟩
  obtain ⟨h1, h2⟩ := hown
  refine ⟨h1, ?_⟩
  rcases h2 with h2 | ⟨g, cap, cur, hv, hg, r⟩
  · exact .inl h2
  · exact .inr ⟨g, cap, cur, hv, by omega, r⟩

set_option maxHeartbeats 1000000 in
theorem choose_any (g : FuncId) (f : Bool → Bool → Bool) (hg : Taker g f) (va vb : Value) (a b : List Nat) (w : World) (ha : U32s w va a) (hb : U32s w vb b) (hlen : a.length + b.length ≤ 5000) :
    Calls Tryd.prog 49 #[va, vb, .func (.func g) #[] #[]] w (Gives32 23 (kept f a b) w) := by
  have CP := Go.Lib.hid (pair_any g f hg va vb a b w.heap.size (w.heap.size + 1) [] w ((w.alloc (.cells #[.func (.func g) #[] #[]] 68)).alloc (.cells #[.slice none 0 0] 22)) ha hb
    (((Below.refl _ _).alloc (Nat.le_refl _) _).alloc (by simp) _) (Nat.le_refl _)
    ⟨(Below.heap_alloc _ _ _ (by simp)).trans (heap_alloc_new _ _), Nat.lt_succ_self _, .slice none 0 0, by
      have := heap_alloc_new (w.alloc (.cells #[.func (.func g) #[] #[]] 68)) (.cells #[.slice none 0 0] 22)
      simpa using this, World.ownsRow_nil _ _ _ _⟩ (by simpa using hlen))
  have hmf : ∀ (fn : Fn) (first cap : Array Value) (w : World), (Instr.makeFunc fn first cap).run Tryd.prog w = .ok (.func fn first cap) w := fun _ _ _ _ => rfl
  have HB := Go.Lib.hid (show Below w.heap.size w ((w.alloc (.cells #[.func (.func g) #[] #[]] 68)).alloc (.cells #[.slice none 0 0] 22)) from ((Below.refl _ _).alloc (Nat.le_refl _) _).alloc (by simp) _)
  clear ha hb hg
  go_enter Tryd.func49, Tryd.ntmps49
  go_wp2_with (go_at_call 69; refine (CP.out).mono ?_; rintro e w1 ⟨rfl, hk1, hb1⟩; obtain ⟨kv, hkv, hend⟩ := choose_end (List.nil_append (kept f a b) ▸ hk1) ((HB.out).trans hb1); have HE := Go.Lib.hid hend; clear hend)
  go_ret
  exact HE.out
theorem union_any (va vb : Value) (a b : List Nat) (w : World) (ha : U32s w va a) (hb : U32s w vb b) (hlen : a.length + b.length ≤ 5000) :
    Calls Tryd.prog 36 #[va, vb] w (Gives32 23 (kept (fun x y => x || y) a b) w) := by
  have C := Go.Lib.hid (choose_any 50 _ takerUnion va vb a b w ha hb hlen)
  clear ha hb
  go_enter Tryd.func36, Tryd.ntmps36
  go_wp2_with (go_at_call 49; refine (C.out).mono ?_; rintro e w1 ⟨v1, rfl, h1, h2⟩)
  go_ret
  exact ⟨v1, rfl, h1, h2⟩
theorem minus_any (va vb : Value) (a b : List Nat) (w : World) (ha : U32s w va a) (hb : U32s w vb b) (hlen : a.length + b.length ≤ 5000) :
    Calls Tryd.prog 37 #[va, vb] w (Gives32 23 (kept (fun x y => x && !y) a b) w) := by
  have C := Go.Lib.hid (choose_any 51 _ takerMinus va vb a b w ha hb hlen)
  clear ha hb
  go_enter Tryd.func37, Tryd.ntmps37
  go_wp2_with (go_at_call 49; refine (C.out).mono ?_; rintro e w1 ⟨v1, rfl, h1, h2⟩)
  go_ret
  exact ⟨v1, rfl, h1, h2⟩
set_option maxHeartbeats 1000000 in
theorem with_any (v : Value) (l : List Nat) (n : Nat) (w : World) (hv : U32s w v l) (hn : n < 4294967296) (hlen : l.length ≤ 4000) :
    Calls Tryd.prog 15 #[v, .int .u32 n] w (Gives32 23 (kept (fun x y => x || y) l [n]) w) := by
  have hb : Below w.heap.size w (w.alloc (.cells #[.int .u32 n] 23)) := (Below.refl _ _).alloc (Nat.le_refl _) _
  have C := Go.Lib.hid (union_any v _ l [n] _ (hv.keep hb) (U32s.one w n 23 hn) (by simp; omega))
  have HB := Go.Lib.hid hb
  clear hv hb
  go_enter Tryd.func15, Tryd.ntmps15
  go_wp2_with (go_at_call 36; refine (C.out).mono ?_; rintro e w1 ⟨v1, rfl, h1, h2⟩)
  go_ret
  exact ⟨v1, rfl, own_base h1 (by simp), Below.tr HB.out h2⟩
set_option maxHeartbeats 1000000 in
theorem without_any (v : Value) (l : List Nat) (n : Nat) (w : World) (hv : U32s w v l) (hn : n < 4294967296) (hlen : l.length ≤ 4000) :
    Calls Tryd.prog 17 #[v, .int .u32 n] w (Gives32 23 (kept (fun x y => x && !y) l [n]) w) := by
  have hb : Below w.heap.size w (w.alloc (.cells #[.int .u32 n] 23)) := (Below.refl _ _).alloc (Nat.le_refl _) _
  have C := Go.Lib.hid (minus_any v _ l [n] _ (hv.keep hb) (U32s.one w n 23 hn) (by simp; omega))
  have HB := Go.Lib.hid hb
  clear hv hb
  go_enter Tryd.func17, Tryd.ntmps17
  go_wp2_with (go_at_call 37; refine (C.out).mono ?_; rintro e w1 ⟨v1, rfl, h1, h2⟩)
  go_ret
  exact ⟨v1, rfl, own_base h1 (by simp), Below.tr HB.out h2⟩
end Go.Proofs.YtdgfnnjcpoklfaaDoor.Nums
