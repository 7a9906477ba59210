/- FramePieces' loop: what a stream is asked for, and what is kept from round to round. -/
import Derived.Test.YtgeekckoepnccaaFrmMem
import Derived.Test.YtgeekckoepnccaaFrmWf
import Derived.Test.YtgeekckoepnccaaOctAdd
import Derived.Test.YtgeekckoepnccaaAttrTold
namespace Go.Proofs.Ytgeekckoepnccaa.Frm
open Go.RowKit Mem Oct Att
open Go.Lib (hid)

/-- What stands of a stream: its base, itself, the bytes that wait, whether it is broken, its blocks. -/
abbrev Strm := World → Nat → Value → List Nat → Bool → (Nat → Prop) → Prop
def waitL (R : List Pc × Nat × No) (a : List Nat) : List Nat := if R.2.2.code ≠ 0 then [] else a.drop R.2.1
/-- What Feed gives. -/
def FeedF (T : Strm) (base : Nat) (v : Value) (l : List Nat) (F : Nat → Prop) (w : World) (e : Ending) (w' : World) : Prop :=
  ∃ A c q A2 k2 c2 F', e = .returned (.tuple #[.slice A (pcs l).1.length c, .agg #[.int .i64 (pcs l).2.2.code, .int .i64 (pcs l).2.2.sub, .slice A2 k2 c2]]) ∧
    w'.ownsRow w.heap.size 57 2 (.slice A (pcs l).1.length c) (pcs l).1.length (frmCells (pcs l).1 q) ∧ Bods w' (pcs l).1 q ∧ Off q (fun b => b < w.heap.size ∨ F' b) ∧
    U8s w' (.slice A2 k2 c2) (pcs l).2.2.data ∧ Off [.slice A2 k2 c2] (fun b => b < w.heap.size) ∧
    T w' base v (waitL (pcs l) l) (decide ((pcs l).2.2.code ≠ 0)) F' ∧ Only F w w' ∧ Grow F F' w
/-- What is asked of the stream's functions. -/
structure Face (T : Strm) : Prop where
  keep : ∀ {W W' : World} {base : Nat} {v : Value} {l : List Nat} {br : Bool} {F : Nat → Prop}, T W base v l br F → (∀ k, F k → W'.heap[k]? = W.heap[k]?) → W.heap.size ≤ W'.heap.size → T W' base v l br F
  low : ∀ {W : World} {base : Nat} {v : Value} {l : List Nat} {br : Bool} {F : Nat → Prop}, T W base v l br F → ∀ k, F k → base ≤ k ∧ k < W.heap.size
  new : ∀ W, Calls Try.prog 7 #[] W (fun e W' => ∃ b F, e = .returned (.pointer (some ⟨b, 0, none⟩)) ∧ T W' W.heap.size (.pointer (some ⟨b, 0, none⟩)) [] false F ∧ Below W.heap.size W W')
  feed : ∀ {base : Nat} {v x : Value} {l b : List Nat} {F : Nat → Prop} {W : World}, T W base v l false F → U8s W x b → (∀ g, x.ownBlock = some g → ¬ F g) → l.length ≤ 10000 → b.length ≤ 1000 → base ≤ W.heap.size →
    Calls Try.prog 9 #[v, x] W (FeedF T base v (l ++ b) F W)
  stop : ∀ {base : Nat} {v x : Value} {l b : List Nat} {F : Nat → Prop} {W : World}, T W base v l true F → U8s W x b → b.length ≤ 1000 →
    Calls Try.prog 9 #[v, x] W (fun e W' => ∃ A c A2 k2 c2 F', e = .returned (.tuple #[.slice A 0 c, .agg #[.int .i64 0, .int .i64 0, .slice A2 k2 c2]]) ∧ T W' base v l true F' ∧ Only F W W' ∧ Grow F F' W)
  waits : ∀ {base : Nat} {v : Value} {l : List Nat} {br : Bool} {F : Nat → Prop} {W : World}, T W base v l br F → Calls Try.prog 10 #[v] W (Tells (.int .i64 l.length) W)
  broken : ∀ {base : Nat} {v : Value} {l : List Nat} {br : Bool} {F : Nat → Prop} {W : World}, T W base v l br F → Calls Try.prog 11 #[v] W (Tells (.bool br) W)
  reset : ∀ {base : Nat} {v : Value} {l : List Nat} {br : Bool} {F : Nat → Prop} {W : World}, T W base v l br F →
    Calls Try.prog 15 #[v] W (fun e W' => ∃ F', e = .returned (.tuple #[]) ∧ T W' base v [] false F' ∧ Only F W W' ∧ Grow F F' W)

/-- Pure: messages are fewer than bytes. -/
theorem pcs_few (b : List Nat) : (pcs b).1.length ≤ (pcs b).2.1 := by
  induction hn : b.length using Nat.strongRecOn generalizing b with
  | _ n ih =>
    rw [pcs_step]
    split
    · exact Nat.le_refl _
    · split
      · exact Nat.le_refl _
      · rename_i h1 h2
        obtain ⟨-, h4, -⟩ := headH_none (b := b) (by simpa using h2)
        split
        · exact Nat.le_refl _
        · have hd : (b.drop (lenH b)).length = b.length - lenH b := List.length_drop
          have := ih _ (by omega) (b.drop (lenH b)) rfl
          show _ + 1 ≤ lenH b + _
          omega
/-- What more bytes tell, where no head was bad. -/
theorem pcs_next {a b : List Nat} (h : (pcs a).2.2.code = 0) : pcs (a ++ b) = ((pcs a).1 ++ (pcs (waitL (pcs a) a ++ b)).1, (pcs a).2.1 + (pcs (waitL (pcs a) a ++ b)).2.1, (pcs (waitL (pcs a) a ++ b)).2.2) ∧ waitL (pcs (a ++ b)) (a ++ b) = waitL (pcs (waitL (pcs a) a ++ b)) (waitL (pcs a) a ++ b) := by
  have e : waitL (pcs a) a = a.drop (pcs a).2.1 := by unfold waitL; rw [if_neg (by rw [h]; simp)]
  have h1 := pcs_more a b
  rw [if_neg (by rw [h]; simp), ← e] at h1
  refine ⟨h1, ?_⟩
  have e2 : (a ++ b).drop (pcs a).2.1 = waitL (pcs a) a ++ b := by rw [e]; exact List.drop_append_of_le_length (pcs_end a)
  generalize waitL (pcs a) a = l' at h1 e2 ⊢
  unfold waitL
  rw [h1]
  dsimp only
  split
  · rfl
  · rw [← List.drop_drop, e2]
theorem wait_len {a : List Nat} (h : (pcs a).2.2.code = 0) : (waitL (pcs a) a).length = a.length - (pcs a).2.1 := by unfold waitL; rw [if_neg (by rw [h]; simp), List.length_drop]
theorem wait_le (a : List Nat) : (waitL (pcs a) a).length ≤ a.length := by
  unfold waitL
  split
  · exact Nat.zero_le _
  · rw [List.length_drop]; omega

/-- What lies beside the stream: all bytes so far, all messages so far. -/
structure Rs (n : Nat) (al : List Nat) (A : Option Addr) (ca : Nat) (B : Option Addr) (cb : Nat) (P : List Pc) (q : List Value) (F : Nat → Prop) (W : World) : Prop where
  all : W.ownsRow n 5 1 (.slice A al.length ca) al.length (cells8 al)
  sm : Small al
  row : W.ownsRow n 57 2 (.slice B P.length cb) P.length (frmCells P q)
  bods : Bods W P q
  aF : ∀ g, (Value.slice A al.length ca).ownBlock = some g → ¬ F g
  tF : ∀ g, (Value.slice B P.length cb).ownBlock = some g → ¬ F g
  qF : Off q F
  qA : Off q (fun g => (Value.slice A al.length ca).ownBlock = some g)
  qT : Apart (.slice B P.length cb) q
theorem bods_at {W : World} {P : List Pc} {q : List Value} {x : Value} {b off m c : Nat} (h : Bods W P q) (hx : x ∈ q) (e : x = .slice (some ⟨b, off, none⟩) m c) (hm : 0 < m) : b < W.heap.size := by
  obtain ⟨k, hk, e2⟩ := List.getElem_of_mem hx
  have hk2 : k < P.length := by rw [← h.1]; exact hk
  have hu := h.2 k _ x (List.getElem?_eq_getElem hk2) (by rw [List.getElem?_eq_getElem hk, e2])
  rw [e] at hu
  exact u8_lt hu hm
theorem bods_part {W W' : World} {P : List Pc} {q : List Value} {G : Nat → Prop} (h : Bods W P q) (ho : Off q G) (hk : ∀ k, k < W.heap.size → ¬ G k → W'.heap[k]? = W.heap[k]?) (hs : W.heap.size ≤ W'.heap.size) : Bods W' P q := by
  refine ⟨h.1, fun k s x e1 e2 => ?_⟩
  have hu := h.2 k s x e1 e2
  have hx : x ∈ q := List.mem_of_getElem? e2
  obtain ⟨⟨hl, A, c, rfl, hm, hc, hr⟩, hsm⟩ := hu
  refine ⟨⟨hl, A, c, rfl, hm, hc, fun h0 => ?_⟩, hsm⟩
  obtain ⟨b, off, rfl, hlt, hcell⟩ := hr h0
  exact ⟨b, off, rfl, Nat.lt_of_lt_of_le hlt hs, fun i y hy => by
    rw [← hcell i y hy]
    exact World.cell?_of_block (hk b hlt (ho _ hx b off _ c rfl h0))⟩
section
variable {n : Nat} {al : List Nat} {A : Option Addr} {ca : Nat} {B : Option Addr} {cb : Nat} {P : List Pc} {q : List Value} {F F' : Nat → Prop} {W W2 : World}
theorem Rs.keep (h : Rs n al A ca B cb P q F W) (hb : Below W.heap.size W W2) : Rs n al A ca B cb P q F W2 := ⟨own_keep h.all hb, h.sm, own_keep h.row hb, h.bods.keep hb, h.aF, h.tF, h.qF, h.qA, h.qT⟩
/-- The stream has turned. -/
theorem Rs.only (h : Rs n al A ca B cb P q F W) (ho : Only F W W2) (hg : Grow F F' W) : Rs n al A ca B cb P q F' W2 :=
  ⟨own_same2 h.all (fun g e => ho.block g (h.all.lt g e).2 (h.aF g e)), h.sm, own_same2 h.row (fun g e => ho.block g (h.row.lt g e).2 (h.tF g e)), bods_part h.bods h.qF ho.block ho.size,
   fun g e hf => (hg g hf).elim (h.aF g e) (fun k => by have := (h.all.lt g e).2; omega), fun g e hf => (hg g hf).elim (h.tF g e) (fun k => by have := (h.row.lt g e).2; omega),
   fun x hx b off m c e hm hf => (hg b hf).elim (h.qF x hx b off m c e hm) (fun k => by have := bods_at h.bods hx e hm; omega), h.qA, h.qT⟩
theorem types_ne : 57 ≠ 5 := by decide
/-- Bytes more. -/
theorem Rs.all_more {b : List Nat} {A' : Option Addr} {c' : Nat} (h : Rs n al A ca B cb P q F W) (hF : ∀ k, F k → k < W.heap.size) (hb : Small b) (hown : W2.ownsRow n 5 1 (.slice A' (al ++ b).length c') (al ++ b).length (cells8 al ++ cells8 b)) (hg : W.grownBy W2 (Value.slice A al.length ca).ownBlock)
    (hat : (Value.slice A' (al ++ b).length c').ownBlock = (Value.slice A al.length ca).ownBlock ∨ (Value.slice A' (al ++ b).length c').ownBlock = some W.heap.size) : Rs n (al ++ b) A' c' B cb P q F W2 := by
  have hr : ∀ g, (Value.slice B P.length cb).ownBlock = some g → (Value.slice A al.length ca).ownBlock ≠ some g := fun g e => own_unlike h.row h.all types_ne g e
  refine ⟨by rw [cells8_append]; exact hown, h.sm.append hb, own_same2 h.row (fun g e => hg.block g (h.row.lt g e).2 (fun k => hr g e k.symm)), bods_part h.bods h.qA (fun k hk hG => hg.block k hk (fun e => hG e.symm)) hg.size, fun g e hf => ?_, h.tF, h.qF, fun x hx b off m c e hm hf => ?_, h.qT⟩
  · rcases hat with k | k
    · exact h.aF g (k ▸ e) hf
    · rw [e] at k; injection k with k; have := hF g hf; omega
  · rcases hat with k | k
    · exact h.qA x hx b off m c e hm (k ▸ hf)
    · have := bods_at h.bods hx e hm
      rw [k] at hf; injection hf with hf; omega
/-- Messages more. -/
theorem Rs.told_more {P2 : List Pc} {q2 : List Value} {B' : Option Addr} {c' : Nat} (h : Rs n al A ca B cb P q F W) (hF : ∀ k, F k → k < W.heap.size) (h2 : Bods W P2 q2) (h3 : Off q2 F) (h4 : Off q2 (fun g => (Value.slice A al.length ca).ownBlock = some g)) (h5 : Apart (.slice B P.length cb) q2)
    (hown : W2.ownsRow n 57 2 (.slice B' (P ++ P2).length c') (P ++ P2).length (frmCells P q ++ frmCells P2 q2)) (hg : W.grownBy W2 (Value.slice B P.length cb).ownBlock)
    (hat : (Value.slice B' (P ++ P2).length c').ownBlock = (Value.slice B P.length cb).ownBlock ∨ (Value.slice B' (P ++ P2).length c').ownBlock = some W.heap.size) : Rs n al A ca B' c' (P ++ P2) (q ++ q2) F W2 := by
  have hr : ∀ g, (Value.slice A al.length ca).ownBlock = some g → (Value.slice B P.length cb).ownBlock ≠ some g := fun g e => own_unlike h.all h.row (fun e => types_ne e.symm) g e
  have hall := h.bods.append h2
  have hap : Apart (.slice B P.length cb) (q ++ q2) := fun x hx => (List.mem_append.1 hx).elim (h.qT x) (h5 x)
  have hbod : Bods W2 (P ++ P2) (q ++ q2) := bods_part (G := fun g => (Value.slice B P.length cb).ownBlock = some g) hall (fun x hx b off m c e hm => hap x hx b off m c e hm) (fun k hk hG => hg.block k hk (fun e => hG e.symm)) hg.size
  refine ⟨own_same2 h.all (fun g e => hg.block g (h.all.lt g e).2 (fun k => hr g e k.symm)), h.sm, by rw [frmCells_append P q P2 q2 h.bods.1]; exact hown, hbod, h.aF, fun g e hf => ?_, fun x hx => (List.mem_append.1 hx).elim (h.qF x) (h3 x), fun x hx => (List.mem_append.1 hx).elim (h.qA x) (h4 x), fun x hx b off m c e hm => ?_⟩
  · rcases hat with k | k
    · exact h.tF g (k ▸ e) hf
    · rw [e] at k; injection k with k; have := hF g hf; omega
  · rcases hat with k | k
    · rw [k]; exact hap x hx b off m c e hm
    · rw [k]
      have := bods_at hall hx e hm
      intro e2; injection e2 with e2; omega
end
end Go.Proofs.Ytgeekckoepnccaa.Frm
