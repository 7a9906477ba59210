/- What Decode of an Update gives: the results' boxes, and what is told of an error. It speaks of no function of the program. An Update and a notice in boxes that a law keeps. It speaks of no function of the program. The program's Decode of an Update: what stands in memory. -/
import Derived.Test.YtlhdjdnflpilbaaGreatDoorG41
import Derived.Test.YtlhdjdnflpilbaaGreatDoorG24
import Derived.Test.YtlhdjdnflpilbaaGreatDoorG44
import Derived.Test.YtlhdjdnflpilbaaGreatDoorG03
import Derived.Test.YtlhdjdnflpilbaaGreatDoorG18
import Derived.Laws.CopyOwn
import Derived.Test.YtlhdjdnflpilbaaGreatDoorG21
namespace Go.Proofs.YtlhdjdnflpilbaaGreatDoor.Upd
open Go.RowKit Mem Segm Oct Att Seg PR
theorem u8s_nil_any {W W2 : World} {v : Value} (h : U8s W v []) : U8s W2 v [] := by
  obtain ⟨⟨hl, A, c, rfl, hn, hc, -⟩, hs⟩ := h
  exact ⟨⟨hl, A, c, rfl, hn, hc, fun h0 => absurd h0 (Nat.lt_irrefl 0)⟩, hs⟩
def DecU (b : List Nat) (w : World) (e : Ending) (w' : World) : Prop :=
  ∃ vu vn, e = .returned (.tuple #[vu, vn]) ∧ UpdF w.heap.size w' vu (outU (decU b)).1 ∧ Note w' vn (outU (decU b)).2 ∧ Below w.heap.size w w'
structure RdU (w W : World) : Prop where
  ru : BoxU W w.heap.size 29 zeroA (.slice none 0 0) (.slice none 0 0) (.slice none 0 0) (.slice none 0 0)
  r3 : Box3 W (w.heap.size + 1) 41 (.int .i64 0) (.int .i64 0) (.slice none 0 0)
  low : Below w.heap.size w W
theorem RdU.below {w W W2 : World} (h : RdU w W) (hb : Below W.heap.size W W2) : RdU w W2 := ⟨h.ru.keep hb, h.r3.keep hb, h.low.trans (hb.mono h.low.size)⟩
def endU (w W : World) (a : At) (vg vp vc vh x y z : Value) : World := (W.setRow w.heap.size #[vg, .int .i64 a.has, .int .i64 a.origin, vp, .int .u32 a.hop, .int .u32 a.med, .int .u32 a.pref, .int .u32 a.aas, .int .u32 a.aid, vc, vh]).setRow (w.heap.size + 1) #[x, y, z]
section
variable {w W W2 : World} {a : At} {vg vp vc vh x y z : Value}
theorem RdU.mid (h : RdU w W) (cs : Array Value) : (W.setRow w.heap.size cs).heap[w.heap.size + 1]? = some (.cells #[.int .i64 0, .int .i64 0, .slice none 0 0] 41 (0, 0)) :=
  (setRow_other W w.heap.size (w.heap.size + 1) cs (by omega)).trans h.r3.blk
theorem endU_off (w W : World) (a : At) (vg vp vc vh x y z : Value) : (∀ k, w.heap.size + 2 ≤ k → (endU w W a vg vp vc vh x y z).heap[k]? = W.heap[k]?) ∧ W.heap.size ≤ (endU w W a vg vp vc vh x y z).heap.size :=
  ⟨fun k hk => (setRow_other _ _ k _ (by omega)).trans (setRow_other _ _ k _ (by omega)), by simp [endU]⟩
theorem RdU.fin (h : RdU w W) (a : At) (vg vp vc vh x y z : Value) : BoxU (endU w W a vg vp vc vh x y z) w.heap.size 29 a vg vp vc vh ∧ Box3 (endU w W a vg vp vc vh x y z) (w.heap.size + 1) 41 x y z ∧ Below w.heap.size w (endU w W a vg vp vc vh x y z) :=
  ⟨⟨(setRow_other _ _ _ _ (by omega)).trans (setRow_heap W w.heap.size _ _ _ _ h.ru.blk)⟩, ⟨setRow_heap _ _ _ _ _ _ (h.mid _)⟩, below_setRow (below_setRow h.low (Nat.le_refl _) _) (by omega) _⟩
end
def endZ (w W : World) (x y z : Value) : World := (W.setRow w.heap.size #[.slice none 0 0, .int .i64 0, .int .i64 0, .slice none 0 0, .int .u32 0, .int .u32 0, .int .u32 0, .int .u32 0, .int .u32 0, .slice none 0 0, .slice none 0 0]).setRow (w.heap.size + 1) #[x, y, z]
theorem RdU.finZ {w W : World} (h : RdU w W) (x y z : Value) : ((endZ w W x y z).cell? ⟨w.heap.size, 0, none⟩ = some (.slice none 0 0) ∧ (endZ w W x y z).cell? ⟨w.heap.size, 1, none⟩ = some (.int .i64 0) ∧ (endZ w W x y z).cell? ⟨w.heap.size, 2, none⟩ = some (.int .i64 0) ∧ (endZ w W x y z).cell? ⟨w.heap.size, 3, none⟩ = some (.slice none 0 0) ∧ (endZ w W x y z).cell? ⟨w.heap.size, 4, none⟩ = some (.int .u32 0) ∧ (endZ w W x y z).cell? ⟨w.heap.size, 5, none⟩ = some (.int .u32 0) ∧ (endZ w W x y z).cell? ⟨w.heap.size, 6, none⟩ = some (.int .u32 0) ∧ (endZ w W x y z).cell? ⟨w.heap.size, 7, none⟩ = some (.int .u32 0) ∧ (endZ w W x y z).cell? ⟨w.heap.size, 8, none⟩ = some (.int .u32 0) ∧ (endZ w W x y z).cell? ⟨w.heap.size, 9, none⟩ = some (.slice none 0 0) ∧ (endZ w W x y z).cell? ⟨w.heap.size, 10, none⟩ = some (.slice none 0 0)) ∧ (endZ w W x y z).cell? ⟨w.heap.size + 1, 0, none⟩ = some x ∧ (endZ w W x y z).cell? ⟨w.heap.size + 1, 1, none⟩ = some y ∧ (endZ w W x y z).cell? ⟨w.heap.size + 1, 2, none⟩ = some z :=
  ⟨(h.fin zeroA (.slice none 0 0) (.slice none 0 0) (.slice none 0 0) (.slice none 0 0) x y z).1.cells, (h.fin zeroA (.slice none 0 0) (.slice none 0 0) (.slice none 0 0) (.slice none 0 0) x y z).2.1.cells⟩
theorem RdU.bad {w W : World} (h : RdU w W) {b : List Nat} {n : No} {s : Int} {A : Option Addr} {m c : Nat} (hd : decU b = .inl n) (hn : n.code = 3 ∧ n.sub = s) (hw : (Lit.int .i64 s).wf = true) (hU : U8s W (.slice A m c) n.data) (hA : ∀ g, (Value.slice A m c).ownBlock = some g → w.heap.size + 2 ≤ g) :
    DecU b w (.returned (.tuple #[.agg #[.slice none 0 0, .int .i64 0, .int .i64 0, .slice none 0 0, .int .u32 0, .int .u32 0, .int .u32 0, .int .u32 0, .int .u32 0, .slice none 0 0, .slice none 0 0], .agg #[.int .i64 3, .int .i64 s, .slice A m c]])) (endU w W zeroA (.slice none 0 0) (.slice none 0 0) (.slice none 0 0) (.slice none 0 0) (.int .i64 3) (.int .i64 s) (.slice A m c)) := by
  have ho := endU_off w W zeroA (.slice none 0 0) (.slice none 0 0) (.slice none 0 0) (.slice none 0 0) (.int .i64 3) (.int .i64 s) (.slice A m c)
  unfold DecU
  rw [hd]
  obtain ⟨n1, n2⟩ := hn
  refine ⟨_, _, rfl, updF_zero _ _, ⟨by show (Lit.int .i64 n.code).wf = true; rw [n1]; decide, by show (Lit.int .i64 n.sub).wf = true; rw [n2]; exact hw, _, by show _ = Value.agg #[.int .i64 n.code, .int .i64 n.sub, _]; rw [n1, n2], hU.part (fun g hg => ho.1 g (hA g hg)) ho.2⟩, (h.fin _ _ _ _ _ _ _ _).2.2⟩
theorem RdU.badN {w W : World} (h : RdU w W) {b : List Nat} {n : No} {A : Option Addr} {m c : Nat} (hd : decU b = .inl n) (hN : Note W (.agg #[.int .i64 n.code, .int .i64 n.sub, .slice A m c]) n) :
    DecU b w (.returned (.tuple #[.agg #[.slice none 0 0, .int .i64 0, .int .i64 0, .slice none 0 0, .int .u32 0, .int .u32 0, .int .u32 0, .int .u32 0, .int .u32 0, .slice none 0 0, .slice none 0 0], .agg #[.int .i64 n.code, .int .i64 n.sub, .slice A m c]])) (endZ w W (.int .i64 n.code) (.int .i64 n.sub) (.slice A m c)) := by
  obtain ⟨h1, h2, vd, h3, h4⟩ := hN
  have e : vd = .slice A m c := by
    injection h3 with h3
    have := congrArg (fun (x : Array Value) => x[2]?) h3
    simpa using this.symm
  subst e
  have k1 : ∀ i (k : Int), W.cell? ⟨w.heap.size, i, none⟩ ≠ some (.int .u8 k) := no8_cells h.ru.blk (fun x hx m e => by subst e; simp at hx)
  have k2 : ∀ i (k : Int), (W.setRow w.heap.size #[.slice none 0 0, .int .i64 0, .int .i64 0, .slice none 0 0, .int .u32 0, .int .u32 0, .int .u32 0, .int .u32 0, .int .u32 0, .slice none 0 0, .slice none 0 0]).cell? ⟨w.heap.size + 1, i, none⟩ ≠ some (.int .u8 k) := no8_cells (h.mid _) (fun x hx m e => by subst e; simp at hx)
  have h5 := u8_apart (u8_apart h4 k1 (W' := W.setRow w.heap.size #[.slice none 0 0, .int .i64 0, .int .i64 0, .slice none 0 0, .int .u32 0, .int .u32 0, .int .u32 0, .int .u32 0, .int .u32 0, .slice none 0 0, .slice none 0 0]) (fun k hk => setRow_other _ _ _ _ hk) (by simp)) k2 (W' := endZ w W (.int .i64 n.code) (.int .i64 n.sub) (.slice A m c)) (fun k hk => setRow_other _ _ _ _ hk) (by simp [endZ])
  unfold DecU
  rw [hd]
  exact ⟨_, _, rfl, updF_zero _ _, ⟨h1, h2, _, rfl, h5⟩, (h.fin zeroA (.slice none 0 0) (.slice none 0 0) (.slice none 0 0) (.slice none 0 0) _ _ _).2.2⟩
theorem RdU.bad0 {w W : World} (h : RdU w W) {b : List Nat} {s : Nat} {si : Int} (hd : decU b = .inl ⟨3, s, []⟩) (hi : si = (s : Int)) (hl : s ≤ 255) :
    DecU b w (.returned (.tuple #[.agg #[.slice none 0 0, .int .i64 0, .int .i64 0, .slice none 0 0, .int .u32 0, .int .u32 0, .int .u32 0, .int .u32 0, .int .u32 0, .slice none 0 0, .slice none 0 0], .agg #[.int .i64 3, .int .i64 si, .slice none 0 0]])) (endU w W zeroA (.slice none 0 0) (.slice none 0 0) (.slice none 0 0) (.slice none 0 0) (.int .i64 3) (.int .i64 si) (.slice none 0 0)) :=
  h.bad hd ⟨rfl, hi.symm⟩ (by subst hi; simp [Lit.wf, IntKind.min, IntKind.max, IntKind.signed, IntKind.bits]; omega) (U8s.nil _) (fun g hg => by cases hg)
theorem atF_keep {n : Nat} {W W2 : World} {v : Value} {a : At} (h : AtF n W v a) (hb : Below W.heap.size W W2) : AtF n W2 v a := by
  obtain ⟨h1, vp, vc, h2, h3, h4, h5⟩ := h
  exact ⟨h1, vp, vc, h2, h3.keep hb, h4.keep hb, h5⟩
theorem atF_lower {n m : Nat} {W : World} {v : Value} {a : At} (h : AtF n W v a) (hm : m ≤ n) : AtF m W v a := by
  obtain ⟨h1, vp, vc, h2, h3, h4, h5⟩ := h
  exact ⟨h1, vp, vc, h2, h3.lower hm hm, h4, h5.lower hm⟩
theorem dec16_of {R : List Nat} {W w' : World} {e : Ending} (h : DecG R W e w') : ∃ (a : At) (n : No) (Ap : Option Addr) (np cp : Nat) (Ac : Option Addr) (nc cc : Nat) (Ad : Option Addr) (nd cd : Nat), a = (outA (decodeA R)).1 ∧ n = (outA (decodeA R)).2 ∧
    e = .returned (.tuple #[aV a (.slice Ap np cp) (.slice Ac nc cc), .agg #[.int .i64 n.code, .int .i64 n.sub, .slice Ad nd cd]]) ∧ AtF W.heap.size w' (aV a (.slice Ap np cp) (.slice Ac nc cc)) a ∧ Note w' (.agg #[.int .i64 n.code, .int .i64 n.sub, .slice Ad nd cd]) n ∧ Below W.heap.size W w' := by
  obtain ⟨va, vn, h1, ⟨h2, vp, vc, rfl, h3, h4, h5⟩, ⟨h6, h7, vd, rfl, h8⟩, h9⟩ := h
  obtain ⟨Ap, cp, rfl⟩ := h3.form
  obtain ⟨Ac, cc, e4⟩ := h4.1.2
  obtain ⟨Ad, cd, rfl, -⟩ := h8.form
  obtain ⟨rfl, -⟩ := e4
  exact ⟨_, _, Ap, _, cp, Ac, _, cc, Ad, _, cd, rfl, rfl, h1, ⟨h2, _, _, rfl, h3, h4, h5⟩, ⟨h6, h7, _, rfl, h8⟩, h9⟩
def new16 (x : World) : World := (x.alloc (.cells #[.int .i64 0, .int .i64 0, .slice none 0 0, .int .u32 0, .int .u32 0, .int .u32 0, .int .u32 0, .int .u32 0, .slice none 0 0] 27)).alloc (.cells #[.int .i64 0, .int .i64 0, .slice none 0 0] 41)
theorem new16_9 (x : World) : (new16 x).heap[x.heap.size]? = some (.cells #[.int .i64 0, .int .i64 0, .slice none 0 0, .int .u32 0, .int .u32 0, .int .u32 0, .int .u32 0, .int .u32 0, .slice none 0 0] 27 (0, 0)) :=
  ((Box9.new x 27 (.int .i64 0) (.int .i64 0) (.slice none 0 0) (.int .u32 0) (.int .u32 0) (.int .u32 0) (.int .u32 0) (.int .u32 0) (.slice none 0 0)).keep ((Below.refl _ _).alloc (Nat.le_refl _) _)).blk
theorem new16_3 (x : World) (cs : Array Value) : ((new16 x).setRow x.heap.size cs).heap[x.heap.size + 1]? = some (.cells #[.int .i64 0, .int .i64 0, .slice none 0 0] 41 (0, 0)) := by
  have h := Box3.new (x.alloc (.cells #[.int .i64 0, .int .i64 0, .slice none 0 0, .int .u32 0, .int .u32 0, .int .u32 0, .int .u32 0, .int .u32 0, .slice none 0 0] 27)) 41 (.int .i64 0) (.int .i64 0) (.slice none 0 0)
  have e : (x.alloc (.cells #[.int .i64 0, .int .i64 0, .slice none 0 0, .int .u32 0, .int .u32 0, .int .u32 0, .int .u32 0, .int .u32 0, .slice none 0 0] 27)).heap.size = x.heap.size + 1 := by simp
  rw [e] at h
  exact (setRow_other _ _ _ _ (by omega)).trans h.blk
theorem new16_low (x : World) : Below x.heap.size x (new16 x) := ((Below.refl x.heap.size x).alloc (Nat.le_refl _) _).alloc (by simp) _
theorem zcells {W : World} {B : Nat} {t : TypeId} {vg vp vc vh : Value} (h : BoxU W B t zeroA vg vp vc vh) : W.cell? ⟨B, 0, none⟩ = some vg ∧ W.cell? ⟨B, 1, none⟩ = some (.int .i64 0) ∧ W.cell? ⟨B, 2, none⟩ = some (.int .i64 0) ∧ W.cell? ⟨B, 3, none⟩ = some vp ∧ W.cell? ⟨B, 4, none⟩ = some (.int .u32 0) ∧ W.cell? ⟨B, 5, none⟩ = some (.int .u32 0) ∧ W.cell? ⟨B, 6, none⟩ = some (.int .u32 0) ∧ W.cell? ⟨B, 7, none⟩ = some (.int .u32 0) ∧ W.cell? ⟨B, 8, none⟩ = some (.int .u32 0) ∧ W.cell? ⟨B, 9, none⟩ = some vc ∧ W.cell? ⟨B, 10, none⟩ = some vh := h.cells
theorem decA_code : ∀ (n : Nat) (seen : List Nat) (a : At) (b : List Nat) (x : No), decA n seen a b = .inl x → x.code = 3
  | 0, seen, a, b, x, h => by unfold decA at h; cases h
  | n + 1, seen, a, b, x, h => by
    unfold decA at h
    split at h
    · cases h
    · cases hit : itemOf b with
      | none => rw [hit] at h; injection h with h; rw [← h]
      | some y =>
        rw [hit] at h
        dsimp only at h
        split at h
        · injection h with h; rw [← h]
        · split at h
          · exact decA_code n _ _ _ x h
          · injection h with h
            rw [← h]
            unfold badN
            split <;> rfl
theorem note_nil {W W2 : World} {n : No} {A : Option Addr} {m c : Nat} (h : Note W (.agg #[.int .i64 n.code, .int .i64 n.sub, .slice A m c]) n) (hn : n.data = []) : Note W2 (.agg #[.int .i64 n.code, .int .i64 n.sub, .slice A m c]) n := by
  obtain ⟨h1, h2, vd, h3, h4⟩ := h
  have e : vd = .slice A m c := by
    injection h3 with h3
    have := congrArg (fun (x : Array Value) => x[2]?) h3
    simpa using this.symm
  subst e
  rw [hn] at h4
  exact ⟨h1, h2, _, rfl, by rw [hn]; exact u8s_nil_any h4⟩
theorem RdU.okN {w W : World} (h : RdU w W) {b : List Nat} {u : Up} {base : Nat} {vg vp vc vh : Value} {A : Option Addr} {m c : Nat} (hb : w.heap.size + 2 ≤ base) (hu : UpdF base W (uV u.at_ vg vp vc vh) u) (hn : Note W (.agg #[.int .i64 0, .int .i64 0, .slice A m c]) ⟨0, 0, []⟩) (hd : decU b = .inr u) :
    DecU b w (.returned (.tuple #[.agg #[vg, .int .i64 u.at_.has, .int .i64 u.at_.origin, vp, .int .u32 u.at_.hop, .int .u32 u.at_.med, .int .u32 u.at_.pref, .int .u32 u.at_.aas, .int .u32 u.at_.aid, vc, vh], .agg #[.int .i64 0, .int .i64 0, .slice A m c]])) (endU w W u.at_ vg vp vc vh (.int .i64 0) (.int .i64 0) (.slice A m c)) := by
  have hoff := endU_off w W u.at_ vg vp vc vh (.int .i64 0) (.int .i64 0) (.slice A m c)
  unfold DecU
  rw [hd]
  exact ⟨_, _, rfl, (hu.off (fun k hk => hoff.1 k (by omega)) hoff.2).lower (by omega), note_nil (n := ⟨0, 0, []⟩) hn rfl, (h.fin _ _ _ _ _ _ _ _).2.2⟩
end Go.Proofs.YtlhdjdnflpilbaaGreatDoor.Upd
namespace Go.Proofs.YtlhdjdnflpilbaaGreatDoor.Upd
open Go.RowKit Mem Segm Oct Att Seg PR
def new10 (x : World) : World := (x.alloc (.cells #[.slice none 0 0, .int .i64 0, .int .i64 0, .slice none 0 0, .int .u32 0, .int .u32 0, .int .u32 0, .int .u32 0, .int .u32 0, .slice none 0 0, .slice none 0 0] 29)).alloc (.cells #[.int .i64 0, .int .i64 0, .slice none 0 0] 41)
theorem new10_11 (x : World) : (new10 x).heap[x.heap.size]? = some (.cells #[.slice none 0 0, .int .i64 0, .int .i64 0, .slice none 0 0, .int .u32 0, .int .u32 0, .int .u32 0, .int .u32 0, .int .u32 0, .slice none 0 0, .slice none 0 0] 29 (0, 0)) :=
  ((BoxU.new x 29 zeroA (.slice none 0 0) (.slice none 0 0) (.slice none 0 0) (.slice none 0 0)).keep ((Below.refl _ _).alloc (Nat.le_refl _) _)).blk
theorem new10_3 (x : World) (cs : Array Value) : ((new10 x).setRow x.heap.size cs).heap[x.heap.size + 1]? = some (.cells #[.int .i64 0, .int .i64 0, .slice none 0 0] 41 (0, 0)) := by
  have h := Box3.new (x.alloc (.cells #[.slice none 0 0, .int .i64 0, .int .i64 0, .slice none 0 0, .int .u32 0, .int .u32 0, .int .u32 0, .int .u32 0, .int .u32 0, .slice none 0 0, .slice none 0 0] 29)) 41 (.int .i64 0) (.int .i64 0) (.slice none 0 0)
  have e : (x.alloc (.cells #[.slice none 0 0, .int .i64 0, .int .i64 0, .slice none 0 0, .int .u32 0, .int .u32 0, .int .u32 0, .int .u32 0, .int .u32 0, .slice none 0 0, .slice none 0 0] 29)).heap.size = x.heap.size + 1 := by simp
  rw [e] at h
  exact (setRow_other _ _ _ _ (by omega)).trans h.blk
theorem new10_low (x : World) : Below x.heap.size x (new10 x) := ((Below.refl x.heap.size x).alloc (Nat.le_refl _) _).alloc (by simp) _
structure Read10 (W : World) (B : Nat) (q : Up) (m : No) (vg vp vc vh vd : Value) : Prop where
  bu : BoxU W B 29 q.at_ vg vp vc vh
  b3 : Box3 W (B + 1) 41 (.int .i64 m.code) (.int .i64 m.sub) vd
  up : Upds W (uV q.at_ vg vp vc vh) q
  no : Note W (.agg #[.int .i64 m.code, .int .i64 m.sub, vd]) m
theorem Read10.keep {W W2 : World} {B : Nat} {q : Up} {m : No} {vg vp vc vh vd : Value} (h : Read10 W B q m vg vp vc vh vd) (hb : Below W.heap.size W W2) : Read10 W2 B q m vg vp vc vh vd :=
  ⟨h.bu.keep hb, h.b3.keep hb, h.up.keep hb, h.no.keep hb⟩
theorem read10 {x : World} {q : Up} {m : No} {Ag Ap Ac Ah Ad : Option Addr} {ng cg np cp nc cc nh ch nd cd : Nat} (hU : Upds x (uV q.at_ (.slice Ag ng cg) (.slice Ap np cp) (.slice Ac nc cc) (.slice Ah nh ch)) q) (hN : Note x (.agg #[.int .i64 m.code, .int .i64 m.sub, .slice Ad nd cd]) m) :
    Read10 (((new10 x).setRow x.heap.size #[.slice Ag ng cg, .int .i64 q.at_.has, .int .i64 q.at_.origin, .slice Ap np cp, .int .u32 q.at_.hop, .int .u32 q.at_.med, .int .u32 q.at_.pref, .int .u32 q.at_.aas, .int .u32 q.at_.aid, .slice Ac nc cc, .slice Ah nh ch]).setRow (x.heap.size + 1) #[.int .i64 m.code, .int .i64 m.sub, .slice Ad nd cd]) x.heap.size q m (.slice Ag ng cg) (.slice Ap np cp) (.slice Ac nc cc) (.slice Ah nh ch) (.slice Ad nd cd) ∧ Below x.heap.size x (((new10 x).setRow x.heap.size #[.slice Ag ng cg, .int .i64 q.at_.has, .int .i64 q.at_.origin, .slice Ap np cp, .int .u32 q.at_.hop, .int .u32 q.at_.med, .int .u32 q.at_.pref, .int .u32 q.at_.aas, .int .u32 q.at_.aid, .slice Ac nc cc, .slice Ah nh ch]).setRow (x.heap.size + 1) #[.int .i64 m.code, .int .i64 m.sub, .slice Ad nd cd]) := by
  have hb : Below x.heap.size x (((new10 x).setRow x.heap.size #[.slice Ag ng cg, .int .i64 q.at_.has, .int .i64 q.at_.origin, .slice Ap np cp, .int .u32 q.at_.hop, .int .u32 q.at_.med, .int .u32 q.at_.pref, .int .u32 q.at_.aas, .int .u32 q.at_.aid, .slice Ac nc cc, .slice Ah nh ch]).setRow (x.heap.size + 1) #[.int .i64 m.code, .int .i64 m.sub, .slice Ad nd cd]) := below_setRow (below_setRow (new10_low x) (Nat.le_refl _) _) (by omega) _
  exact ⟨⟨⟨(setRow_other _ _ _ _ (by omega)).trans (setRow_heap _ _ _ _ _ _ (new10_11 x))⟩, ⟨setRow_heap _ _ _ _ _ _ (new10_3 x _)⟩, hU.keep hb, hN.keep hb⟩, hb⟩
theorem decU_of {b : List Nat} {w w' : World} {e : Ending} {q : Up} {m : No} (hq : outU (decU b) = (q, m)) (h : DecU b w e w') : ∃ (Ag : Option Addr) (ng cg : Nat) (Ap : Option Addr) (np cp : Nat) (Ac : Option Addr) (nc cc : Nat) (Ah : Option Addr) (nh ch : Nat) (Ad : Option Addr) (nd cd : Nat),
    e = .returned (.tuple #[.agg #[.slice Ag ng cg, .int .i64 q.at_.has, .int .i64 q.at_.origin, .slice Ap np cp, .int .u32 q.at_.hop, .int .u32 q.at_.med, .int .u32 q.at_.pref, .int .u32 q.at_.aas, .int .u32 q.at_.aid, .slice Ac nc cc, .slice Ah nh ch], .agg #[.int .i64 m.code, .int .i64 m.sub, .slice Ad nd cd]]) ∧ Upds w' (uV q.at_ (.slice Ag ng cg) (.slice Ap np cp) (.slice Ac nc cc) (.slice Ah nh ch)) q ∧ Note w' (.agg #[.int .i64 m.code, .int .i64 m.sub, .slice Ad nd cd]) m ∧ Below w.heap.size w w' := by
  obtain ⟨vu, vn, h1, h2, h3, h4⟩ := h
  rw [hq] at h2 h3
  dsimp only at h2 h3
  obtain ⟨vg, vp, vc, vh, rfl, hg, ha, hh⟩ := h2.upds
  obtain ⟨Ag, cg, rfl, -, -⟩ := hg.form
  obtain ⟨Ah, ch, rfl, -, -⟩ := hh.form
  obtain ⟨k1, vp', vc', k2, k3, k4⟩ := ha
  simp only [aV, acells, Value.agg.injEq, List.toArray_eq_iff, List.cons.injEq, and_true, true_and] at k2
  obtain ⟨rfl, rfl⟩ := k2
  obtain ⟨Ap, cp, rfl, -, -⟩ := k3.form
  obtain ⟨Ac, cc, rfl, -, -, -, -⟩ := k4.open_
  obtain ⟨vd, rfl, hD⟩ := note_form h3
  obtain ⟨Ad, cd, rfl, -, -⟩ := hD.form
  exact ⟨Ag, _, cg, Ap, _, cp, Ac, _, cc, Ah, _, ch, Ad, _, cd, h1, h2.upds, h3, h4⟩
end Go.Proofs.YtlhdjdnflpilbaaGreatDoor.Upd
namespace Go.Proofs.YtlhdjdnflpilbaaGreatDoor.Upd
open Go.RowKit Mem Segm Oct Att Seg PR
theorem ufault_any (s : Int) (w : World) : Calls Tryz.prog 45 #[.int .i64 s] w (Tells (.agg #[.int .i64 3, .int .i64 s, .slice none 0 0]) w) := by
  have HB := Go.Lib.hid ((Below.refl w.heap.size w).alloc (Nat.le_refl _) (.cells #[.int .i64 3, .int .i64 s, .slice none 0 0] 41))
  go_enter Tryz.func45, Tryz.ntmps45
  go_wp2
  (try simp only [Exit.inBlock, Exit.then])
  refine bodyPost_ret (v := .agg #[.int .i64 3, .int .i64 s, .slice none 0 0]) (by simp [results, Tryz.results45, go_sem]) rfl ?_
  exact ⟨rfl, HB.out⟩
section
variable {W W2 : World} {base n : Nat} {F : Nat → Prop}
theorem own2_on {e : TypeId} {v : Value} {m : Nat} {xs : List Value} (h : W.ownsRow base e 2 v m xs) (ho : Only F W W2) (hF : ∀ k, F k → k < base) : W2.ownsRow base e 2 v m xs :=
  own_same2 h fun g hg => ho.block g (h.lt g hg).2 (fun hf => by have := hF g hf; have := (h.lt g hg).1; omega)
theorem atF_on {v : Value} {a : At} (h : AtF n W v a) (ho : Only F W W2) (hF : ∀ k, F k → k < n) : AtF n W2 v a := by
  obtain ⟨h1, vp, vc, h2, h3, h4, h5⟩ := h
  exact ⟨h1, vp, vc, h2, segs_on h3 ho hF, u32_on h4 h5 ho hF, h5⟩
def GoP (base : Nat) (G : List Nat) (vg : Value) (er : Int) (W : World) : Prop :=
  (dec val G = none ∧ er = 2) ∨ ∃ L A c, dec val G = some L ∧ er = 0 ∧ vg = .slice A L.length c ∧ W.ownsRow base 63 2 (.slice A L.length c) L.length (pcells L) ∧ Oks L
theorem GoP.on {G : List Nat} {vg : Value} {er : Int} (h : GoP base G vg er W) (ho : Only F W W2) (hF : ∀ k, F k → k < base) : GoP base G vg er W2 := by
  rcases h with h | ⟨L, A, c, h1, h2, h3, h4, h5⟩
  · exact .inl h
  · exact .inr ⟨L, A, c, h1, h2, h3, own2_on h4 ho hF, h5⟩
theorem GoP.keep {G : List Nat} {vg : Value} {er : Int} (h : GoP base G vg er W) (hb : Below W.heap.size W W2) : GoP base G vg er W2 := h.on (F := fun _ => False) (Only.of hb) (fun _ hk => hk.elim)
theorem GoP.lower {G : List Nat} {vg : Value} {er : Int} (h : GoP base G vg er W) (hn : n ≤ base) : GoP n G vg er W := by
  rcases h with h | ⟨L, A, c, h1, h2, h3, h4, h5⟩
  · exact .inl h
  · exact .inr ⟨L, A, c, h1, h2, h3, own_base h4 hn, h5⟩
theorem decO_of {G : List Nat} {e : Ending} (h : DecO G W e W2) : ∃ A m c er, e = .returned (.tuple #[.slice A m c, .int .i64 er]) ∧ GoP W.heap.size G (.slice A m c) er W2 ∧ Below W.heap.size W W2 := by
  rcases h with ⟨h1, h2, h3⟩ | ⟨L, A, c, h1, h2, h3, h4, h5⟩
  · exact ⟨none, 0, 0, 2, h2, .inl ⟨h1, rfl⟩, h3⟩
  · exact ⟨A, L.length, c, 0, h2, .inr ⟨L, A, c, h1, rfl, rfl, h3, h4⟩, h5⟩
theorem only_setRow (W : World) (b : Nat) (cs : Array Value) : Only (fun k => k = b) W (W.setRow b cs) :=
  ⟨rfl, rfl, rfl, by simp, fun k _ hk => setRow_other _ _ _ _ hk⟩
end
theorem RdU.on {w W W2 : World} {F : Nat → Prop} (h : RdU w W) (ho : Only F W W2) (hF : ∀ k, F k → w.heap.size + 2 ≤ k) : RdU w W2 :=
  ⟨⟨(ho.block _ h.ru.lt (fun hf => by have := hF _ hf; omega)).trans h.ru.blk⟩, ⟨(ho.block _ h.r3.lt (fun hf => by have := hF _ hf; omega)).trans h.r3.blk⟩, h.low.trans (ho.below (fun k hk => by have := hF k hk; omega) h.low.size)⟩
theorem rdu_start (w : World) : RdU w ((w.alloc (.cells #[.slice none 0 0, .int .i64 0, .int .i64 0, .slice none 0 0, .int .u32 0, .int .u32 0, .int .u32 0, .int .u32 0, .int .u32 0, .slice none 0 0, .slice none 0 0] 29)).alloc (.cells #[.int .i64 0, .int .i64 0, .slice none 0 0] 41)) ∧
    ((w.alloc (.cells #[.slice none 0 0, .int .i64 0, .int .i64 0, .slice none 0 0, .int .u32 0, .int .u32 0, .int .u32 0, .int .u32 0, .int .u32 0, .slice none 0 0, .slice none 0 0] 29)).alloc (.cells #[.int .i64 0, .int .i64 0, .slice none 0 0] 41)).heap.size = w.heap.size + 2 := by
  have h1 := BoxU.new w 29 zeroA (.slice none 0 0) (.slice none 0 0) (.slice none 0 0) (.slice none 0 0)
  have b1 : Below w.heap.size w (w.alloc (.cells #[.slice none 0 0, .int .i64 0, .int .i64 0, .slice none 0 0, .int .u32 0, .int .u32 0, .int .u32 0, .int .u32 0, .int .u32 0, .slice none 0 0, .slice none 0 0] 29)) := (Below.refl _ w).alloc (Nat.le_refl _) _
  have e1 : (w.alloc (.cells #[.slice none 0 0, .int .i64 0, .int .i64 0, .slice none 0 0, .int .u32 0, .int .u32 0, .int .u32 0, .int .u32 0, .int .u32 0, .slice none 0 0, .slice none 0 0] 29)).heap.size = w.heap.size + 1 := by simp
  obtain ⟨W1, hW1⟩ : ∃ W1, W1 = w.alloc (.cells #[.slice none 0 0, .int .i64 0, .int .i64 0, .slice none 0 0, .int .u32 0, .int .u32 0, .int .u32 0, .int .u32 0, .int .u32 0, .slice none 0 0, .slice none 0 0] 29) := ⟨_, rfl⟩
  have h1' : BoxU W1 w.heap.size 29 zeroA (.slice none 0 0) (.slice none 0 0) (.slice none 0 0) (.slice none 0 0) := by rw [hW1]; exact h1
  rw [← hW1] at b1 e1 ⊢
  have h2 := Box3.new W1 41 (.int .i64 0) (.int .i64 0) (.slice none 0 0)
  have b2 : Below W1.heap.size W1 (W1.alloc (.cells #[.int .i64 0, .int .i64 0, .slice none 0 0] 41)) := (Below.refl _ _).alloc (Nat.le_refl _) _
  rw [e1] at h2
  exact ⟨⟨h1'.keep b2, h2, b1.trans (b2.mono b1.size)⟩, by simp [e1]⟩
structure UdSt (w : World) (n br : Nat) (x : Rd) (W : World) : Prop where
  ru : RdU w W
  rd : R W (w.heap.size + 2) n (.pointer (some ⟨br, 0, none⟩)) x.l x.b (fun k => k = br)
section
variable {w W W2 : World} {n br : Nat} {x y : Rd}
theorem UdSt.ge (h : UdSt w n br x W) : w.heap.size + 2 ≤ br ∧ br < n := h.rd.low br rfl
theorem UdSt.le (h : UdSt w n br x W) : n ≤ W.heap.size := by
  rcases h.rd with ⟨h1, -⟩ | ⟨b, s, -, -, -, h4, -⟩
  · cases h1
  · exact h4
theorem UdSt.below (h : UdSt w n br x W) (hb : Below W.heap.size W W2) : UdSt w n br x W2 := ⟨h.ru.below hb, h.rd.below hb⟩
theorem UdSt.read (h : UdSt w n br x W) (hr : R W2 (w.heap.size + 2) n (.pointer (some ⟨br, 0, none⟩)) y.l y.b (fun k => k = br)) (ho : Only (fun k => k = br) W W2) : UdSt w n br y W2 :=
  ⟨h.ru.on ho (fun k hk => by have := h.ge.1; omega), hr⟩
theorem UdSt.far {F : Nat → Prop} (h : UdSt w n br x W) (ho : Only F W W2) (hF : ∀ k, F k → n ≤ k) : UdSt w n br x W2 :=
  ⟨h.ru.on ho (fun k hk => by have := h.ge; have := hF k hk; omega), h.rd.far ho hF⟩
end
theorem updF_of {n : Nat} {W : World} {L H : List Pf} {Ag Ah : Option Addr} {cg ch : Nat} {a : At} {vp vc : Value} (hg : W.ownsRow n 63 2 (.slice Ag L.length cg) L.length (pcells L)) (hok : Oks L) (ha : AtF n W (aV a vp vc) a) (hh : W.ownsRow n 63 2 (.slice Ah H.length ch) H.length (pcells H)) (hok2 : Oks H) :
    UpdF n W (uV a (.slice Ag L.length cg) vp vc (.slice Ah H.length ch)) ⟨L, a, H⟩ := by
  obtain ⟨h1, vp', vc', h2, h3, h4, h5⟩ := ha
  simp only [aV, acells, Value.agg.injEq, List.toArray_eq_iff, List.cons.injEq, and_true, true_and] at h2
  obtain ⟨rfl, rfl⟩ := h2
  exact ⟨Ag, cg, vp, vc, Ah, ch, rfl, hg, hok, ⟨h1, h3, h4, h5⟩, hh, hok2⟩
structure UpSt (w : World) (n br : Nat) (x : Rd) (L : List Pf) (A : Option Addr) (c : Nat) (a : At) (q0 q1 : Int) (vp vc vd : Value) (X W : World) : Prop where
  ud : UdSt w n br x W
  own : X.ownsRow n 63 2 (.slice A L.length c) L.length (pcells L)
  at_ : AtF n X (aV a vp vc) a
  hn : n ≤ X.heap.size
  on : Only (fun k => k = br) X W
  b9 : Box9 W X.heap.size 27 (.int .i64 a.has) (.int .i64 a.origin) vp (.int .u32 a.hop) (.int .u32 a.med) (.int .u32 a.pref) (.int .u32 a.aas) (.int .u32 a.aid) vc
  b3 : Box3 W (X.heap.size + 1) 41 (.int .i64 q0) (.int .i64 q1) vd
section
variable {w X W W2 : World} {n br : Nat} {x y : Rd} {L : List Pf} {A : Option Addr} {c : Nat} {a : At} {q0 q1 q2 q3 : Int} {vp vc vd vd2 : Value}
theorem UpSt.below (h : UpSt w n br x L A c a q0 q1 vp vc vd X W) (hb : Below W.heap.size W W2) : UpSt w n br x L A c a q0 q1 vp vc vd X W2 :=
  ⟨h.ud.below hb, h.own, h.at_, h.hn, h.on.trans (Only.of hb), h.b9.keep hb, h.b3.keep hb⟩
theorem UpSt.read (h : UpSt w n br x L A c a q0 q1 vp vc vd X W) (hr : R W2 (w.heap.size + 2) n (.pointer (some ⟨br, 0, none⟩)) y.l y.b (fun k => k = br)) (ho : Only (fun k => k = br) W W2) : UpSt w n br y L A c a q0 q1 vp vc vd X W2 := by
  have hg := h.ud.ge.2
  have hB := h.hn
  exact ⟨h.ud.read hr ho, h.own, h.at_, h.hn, h.on.trans ho, ⟨(ho.block X.heap.size h.b9.lt (by omega)).trans h.b9.blk⟩, ⟨(ho.block (X.heap.size + 1) h.b3.lt (by omega)).trans h.b3.blk⟩⟩
theorem UpSt.note (h : UpSt w n br x L A c a q0 q1 vp vc vd X W) (q2 q3 : Int) (vd2 : Value) : UpSt w n br x L A c a q2 q3 vp vc vd2 X (W.setRow (X.heap.size + 1) #[.int .i64 q2, .int .i64 q3, vd2]) := by
  have ho := only_setRow W (X.heap.size + 1) #[.int .i64 q2, .int .i64 q3, vd2]
  have hB := h.hn
  exact ⟨h.ud.far ho (fun k hk => by omega), h.own, h.at_, h.hn, only_new h.on ho (fun k hk => by omega), ⟨(setRow_other _ _ _ _ (by omega)).trans h.b9.blk⟩, ⟨setRow_heap _ _ _ _ _ _ h.b3.blk⟩⟩
theorem UpSt.gone (h : UpSt w n br x L A c a q0 q1 vp vc vd X W) : W.ownsRow n 63 2 (.slice A L.length c) L.length (pcells L) :=
  own2_on h.own h.on (fun k hk => by have := h.ud.ge.2; omega)
theorem UpSt.attrs (h : UpSt w n br x L A c a q0 q1 vp vc vd X W) : AtF n W (aV a vp vc) a := atF_on h.at_ h.on (fun k hk => by have := h.ud.ge.2; omega)
theorem up_start (q0 q1 : Int) (vd : Value) (h1 : UdSt w n br x X) (h2 : X.ownsRow n 63 2 (.slice A L.length c) L.length (pcells L)) (h3 : AtF n X (aV a vp vc) a) :
    UpSt w n br x L A c a q0 q1 vp vc vd X (((new16 X).setRow X.heap.size #[.int .i64 a.has, .int .i64 a.origin, vp, .int .u32 a.hop, .int .u32 a.med, .int .u32 a.pref, .int .u32 a.aas, .int .u32 a.aid, vc]).setRow (X.heap.size + 1) #[.int .i64 q0, .int .i64 q1, vd]) ∧
    Below X.heap.size X (((new16 X).setRow X.heap.size #[.int .i64 a.has, .int .i64 a.origin, vp, .int .u32 a.hop, .int .u32 a.med, .int .u32 a.pref, .int .u32 a.aas, .int .u32 a.aid, vc]).setRow (X.heap.size + 1) #[.int .i64 q0, .int .i64 q1, vd]) := by
  have hb : Below X.heap.size X (((new16 X).setRow X.heap.size #[.int .i64 a.has, .int .i64 a.origin, vp, .int .u32 a.hop, .int .u32 a.med, .int .u32 a.pref, .int .u32 a.aas, .int .u32 a.aid, vc]).setRow (X.heap.size + 1) #[.int .i64 q0, .int .i64 q1, vd]) :=
    below_setRow (below_setRow (new16_low X) (Nat.le_refl _) _) (by omega) _
  exact ⟨⟨h1.below hb, h2, h3, h1.le, Only.of hb, ⟨(setRow_other _ _ _ _ (by omega)).trans (setRow_heap _ _ _ _ _ _ (new16_9 X))⟩, ⟨setRow_heap _ _ _ _ _ _ (new16_3 X _)⟩⟩, hb⟩
end
end Go.Proofs.YtlhdjdnflpilbaaGreatDoor.Upd
