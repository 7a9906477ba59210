/- The program's judge: of which type the message behind a head is, and how many bytes it has; or what is wrong of the head. -/
import Derived.Test.YtgeekckoepnccaaFrmFun
import Derived.Test.YtgeekckoepnccaaFrmMark
import Derived.Test.YtgeekckoepnccaaOctEqual
import Derived.Test.YtgeekckoepnccaaOctPut
import Derived.Test.YtgeekckoepnccaaOctRd
import Derived.Deep.DeepCutAuto
namespace Go.Proofs.Ytgeekckoepnccaa.Frm
open Go.RowKit Mem Oct Att Ahead
open Go.Lib (hid)

/-- Bytes lie in no block that holds none. -/
theorem u8_stays {W W' : World} {v : Value} {l : List Nat} {b : Nat} (h : U8s W v l) (hB : ∀ i n, W.cell? ⟨b, i, none⟩ ≠ some (.int .u8 n)) (ho : Only (fun k => k = b) W W') : U8s W' v l := by
  obtain ⟨⟨hl, A, c, rfl, hm, hc, hr⟩, hsm⟩ := h
  refine ⟨⟨hl, A, c, rfl, hm, hc, fun h0 => ?_⟩, hsm⟩
  obtain ⟨b', off, rfl, hlt, hcell⟩ := hr h0
  have hx := List.getElem?_eq_getElem h0
  have hne : b' ≠ b := fun e => by
    subst e
    exact hB _ _ (hcell 0 (.int .u8 l[0]) (by unfold cells8; rw [List.getElem?_map, hx]; rfl))
  refine ⟨b', off, rfl, Nat.lt_of_lt_of_le hlt ho.size, fun i y hy => ?_⟩
  rw [← hcell i y hy]
  exact World.cell?_of_block (ho.block b' hlt hne)
theorem R.no8 {W : World} {base n : Nat} {b : Nat} {l : List Nat} {bad : Bool} (h : R W base n (.pointer (some ⟨b, 0, none⟩)) l bad (fun k => k = b)) (i : Nat) (m : Int) : W.cell? ⟨b, i, none⟩ ≠ some (.int .u8 m) := by
  rcases h with ⟨h, _⟩ | ⟨b', s, e, -, -, -, hb, hu, -⟩
  · cases h
  · injection e with e
    injection e with e
    injection e with e
    subst e
    obtain ⟨A, c, rfl, -, -⟩ := hu.form
    exact no8_cells hb (fun u hu => by
      have : u = .slice A l.length c ∨ u = .bool bad := by simpa using hu
      rcases this with rfl | rfl
      · exact no8_s _ _ _
      · exact no8_b _) i m
/-- While a head is judged: the result's box, the reader. -/
structure JgSt (w : World) (b n : Nat) (l : List Nat) (W : World) : Prop where
  box : Box3 W w.heap.size 29 (.int .i64 0) (.int .i64 0) (.slice none 0 0)
  low : Below w.heap.size w W
  rd : R W (w.heap.size + 1) n (.pointer (some ⟨b, 0, none⟩)) l false (fun k => k = b)
  at_ : w.heap.size < b
section
variable {w W W2 : World} {b n : Nat} {l m : List Nat}
theorem JgSt.read (h : JgSt w b n l W) (hr : R W2 (w.heap.size + 1) n (.pointer (some ⟨b, 0, none⟩)) m false (fun k => k = b)) (ho : Only (fun k => k = b) W W2) : JgSt w b n m W2 :=
  ⟨h.box.below (fun k hk => ho.block k (by rw [hk]; exact h.box.lt) (fun e => by have := h.at_; omega)), h.low.trans (ho.below (fun k hk => by have := h.at_; omega) h.low.size), hr, h.at_⟩
end
theorem jg_start {w W2 : World} {b : Nat} {l : List Nat} (hr : R W2 (w.alloc (.cells #[.int .i64 0, .int .i64 0, .slice none 0 0] 29)).heap.size W2.heap.size (.pointer (some ⟨b, 0, none⟩)) l false (fun k => k = b)) (hb : Below (w.alloc (.cells #[.int .i64 0, .int .i64 0, .slice none 0 0] 29)).heap.size (w.alloc (.cells #[.int .i64 0, .int .i64 0, .slice none 0 0] 29)) W2) : JgSt w b W2.heap.size l W2 := by
  have h1 := box_low w (.int .i64 0) (.int .i64 0) (.slice none 0 0)
  have e : (w.alloc (.cells #[.int .i64 0, .int .i64 0, .slice none 0 0] 29)).heap.size = w.heap.size + 1 := by simp
  have h2 := (hr.low b rfl).1
  rw [e] at hr h2
  exact ⟨(Box3.new w _ _ _ _).keep hb, h1.trans (hb.mono h1.size), hr, h2⟩
/-- What judge gives. -/
def JudgeW (n : No) (K N : Nat) (w : World) (e : Ending) (w' : World) : Prop :=
  ∃ A k c, e = .returned (.tuple #[.int .i64 (K : Nat), .int .i64 (N : Nat), .agg #[.int .i64 n.code, .int .i64 n.sub, .slice A k c]]) ∧ U8s w' (.slice A k c) n.data ∧ Off [.slice A k c] (fun b => b < w.heap.size) ∧ Below w.heap.size w w'
def JudgeF (l : List Nat) : World → Ending → World → Prop := JudgeW (headH l) (if (headH l).code = 0 then typH l else 0) (if (headH l).code = 0 then lenH l else 0)
theorem judge_end {w W : World} {b n k c : Nat} {l d : List Nat} {A : Option Addr} {code sub : Int} {K N : Nat} (h : JgSt w b n l W) (hU : U8s W (.slice A k c) d) (hO : Off [.slice A k c] (fun b => b < w.heap.size)) :
    JudgeW ⟨code, sub, d⟩ K N w (.returned (.tuple #[.int .i64 (K : Nat), .int .i64 (N : Nat), .agg #[.int .i64 code, .int .i64 sub, .slice A k c]])) (three W w.heap.size (.int .i64 code) (.int .i64 sub) (.slice A k c)) := by
  have ho := three_off W w.heap.size (.int .i64 code) (.int .i64 sub) (.slice A k c)
  have hn := h.box.no8 (no8_i _) (no8_i _) (no8_s _ _ _)
  exact ⟨A, k, c, rfl, u8_apart hU hn ho.1 ho.2, hO, three_low h.low _ (Nat.le_refl _) _ _ _⟩
theorem JgSt.keep {w W W2 : World} {b n : Nat} {l : List Nat} (h : JgSt w b n l W) (hb : Below W.heap.size W W2) : JgSt w b n l W2 := ⟨h.box.keep hb, h.low.trans (hb.mono h.low.size), h.rd.below hb, h.at_⟩
theorem ff_all {l : List Nat} (h : 16 ≤ l.length) : (l.take 16 = List.replicate 16 255) ↔ (l.take 16).all (fun x => decide (x = 255)) = true := by
  rw [List.eq_replicate_iff, List.length_take, Nat.min_eq_left h, List.all_eq_true]
  simp
theorem two_back {l : List Nat} (hs : Small l) (h : l.length = 2) : [lo8 ((val l : Int) / 256), lo8 (val l : Int)] = l := by
  match l, h with
  | [a, b], _ =>
    have ha := hs a (by simp)
    have hb := hs b (by simp)
    have e : val [a, b] = a * 256 + b := by show (0 * 256 + a) * 256 + b = _; omega
    rw [e]
    unfold lo8
    congr 1
    · omega
    · congr 1; omega
theorem one_back {l : List Nat} (hs : Small l) (h : l.length = 1) : [lo8 (val l : Int)] = l := by
  match l, h with
  | [a], _ =>
    have ha := hs a (by simp)
    have e : val [a] = a := by show 0 * 256 + a = a; omega
    rw [e]
    unfold lo8
    congr 1
    omega
theorem typ_val {l : List Nat} (h : l.length = 19) : typH l = val ((l.drop 18).take 1) := by
  unfold typH
  match hd : l.drop 18, (show (l.drop 18).length = 1 by rw [List.length_drop]; omega) with
  | [a], _ =>
    have : l[18]? = some a := by
      have := congrArg (fun x => x[0]?) hd
      simpa [List.getElem?_drop] using this
    rw [this]
    show a = 0 * 256 + a
    omega
theorem off_none (n c : Nat) (G : Nat → Prop) : Off [.slice none n c] G := fun x hx b off m c' e => by
  rw [List.mem_singleton.1 hx] at e
  cases e
theorem off_one {g n c : Nat} {G : Nat → Prop} (h : ¬ G g) : Off [.slice (some ⟨g, 0, none⟩) n c] G := fun x hx b off m c' e => by
  rw [List.mem_singleton.1 hx] at e
  injection e with e
  injection e with e
  injection e with e
  subst e
  exact fun _ => h
/-- What fault gives, while a head is judged. -/
def FltF (w : World) (b n : Nat) (l : List Nat) (s : Int) (d : List Nat) (e : Ending) (w' : World) : Prop := ∃ A k c, e = .returned (.agg #[.int .i64 1, .int .i64 s, .slice A k c]) ∧ U8s w' (.slice A k c) d ∧ Off [.slice A k c] (fun b => b < w.heap.size) ∧ JgSt w b n l w'
theorem flt_none (s : Int) {w : World} {b n : Nat} {l : List Nat} (W : World) (h : JgSt w b n l W) : Calls Try.prog 36 #[.int .i64 s, .slice none 0 0] W (FltF w b n l s []) :=
  (fault_any s none 0 0 W).mono fun _ _ ⟨he, hb⟩ => ⟨none, 0, 0, he, U8s.nil _, off_none _ _ _, h.keep hb⟩
theorem flt_lit (s : Int) (d : List Nat) (C : Array Value) (k : Nat) (hd : Small d) (hC : C.toList = cells8 d) (hk : k = d.length) (hm : k ≤ 1000000) {w : World} {b n : Nat} {l : List Nat} (W : World) (h : JgSt w b n l W) :
    Calls Try.prog 36 #[.int .i64 s, .slice (some ⟨W.heap.size, 0, none⟩) k k] (W.alloc (.cells C 5)) (FltF w b n l s d) :=
  (fault_any s _ k k _).mono fun _ _ ⟨he, hb⟩ => ⟨_, k, k, he, (lit8 W d C k hd hC hk hm).keep hb, off_one (by have := h.low.size; omega), (h.keep ((Below.refl _ _).alloc (Nat.le_refl _) _)).keep hb⟩
set_option maxRecDepth 100000 in
set_option maxHeartbeats 8000000 in
theorem judge_any (v : Value) (l : List Nat) (w : World) (hv : U8s w v l) (hl : l.length = 19) : Calls Try.prog 23 #[v] w (JudgeF l w) := by
  have hal := box_low w (.int .i64 0) (.int .i64 0) (.slice none 0 0)
  have CN := hid (show Calls Try.prog 31 #[v] (w.alloc (.cells #[.int .i64 0, .int .i64 0, .slice none 0 0] 29)) (NewF l _) from new_any v l _ (hv.keep hal) (by omega))
  have HR := hid hv.2
  have HR2 := hid (hv.2.drop 16)
  have HR3 := hid ((hv.2.drop 16).drop 2)
  obtain ⟨e1, e2⟩ := fit_go (l := l) (n := 16) (by omega)
  obtain ⟨e3, e4⟩ := fit_go (l := l.drop 16) (n := 2) (by rw [List.length_drop]; omega)
  obtain ⟨e5, e6⟩ := fit_go (l := (l.drop 16).drop 2) (n := 1) (by rw [List.length_drop, List.length_drop]; omega)
  have CT := hid (fun (b n : Nat) (W : World) (h : R W (w.heap.size + 1) n (.pointer (some ⟨b, 0, none⟩)) l false (fun k => k = b)) => show Calls Try.prog 32 #[.pointer (some ⟨b, 0, none⟩), .int .i64 16] W (fun e w' => ∃ A c, e = .returned (.slice A 16 c) ∧ U8s w' (.slice A 16 c) (l.take 16) ∧ R w' (w.heap.size + 1) n (.pointer (some ⟨b, 0, none⟩)) (l.drop 16) false (fun k => k = b) ∧ Only (fun k => k = b) W w') from
    (take_any _ _ n l false _ 16 (by decide) W h).mono (by
      rintro e x ⟨A, c, rfl, hu, hr, ho⟩
      have h1 : rest l false 16 = l.drop 16 := congrArg Rd.l e1
      have h2 : fails l false 16 = false := congrArg Rd.b e1
      have h3 : got l false 16 = l.take 16 := e2
      rw [h1, h2] at hr
      rw [h3] at hu ⊢
      rw [show (l.take 16).length = 16 by rw [List.length_take]; omega] at hu ⊢
      exact ⟨A, c, rfl, hu, hr, ho⟩))
  have CV := hid (fun (b n : Nat) (W : World) (h : R W (w.heap.size + 1) n (.pointer (some ⟨b, 0, none⟩)) (l.drop 16) false (fun k => k = b)) => show Calls Try.prog 33 #[.pointer (some ⟨b, 0, none⟩)] W (fun e w' => e = .returned (.int .i64 (lenH l : Nat)) ∧ R w' (w.heap.size + 1) n (.pointer (some ⟨b, 0, none⟩)) ((l.drop 16).drop 2) false (fun k => k = b) ∧ Only (fun k => k = b) W w') from
    (u16_any _ _ n _ false _ W HR2.out h).mono (by
      rintro e x ⟨rfl, hr, ho⟩
      have h1 : rest (l.drop 16) false 2 = (l.drop 16).drop 2 := congrArg Rd.l e3
      have h2 : fails (l.drop 16) false 2 = false := congrArg Rd.b e3
      have h3 : got (l.drop 16) false 2 = (l.drop 16).take 2 := e4
      rw [h1, h2] at hr
      rw [h3]
      exact ⟨rfl, hr, ho⟩))
  have CU := hid (fun (b n : Nat) (W : World) (h : R W (w.heap.size + 1) n (.pointer (some ⟨b, 0, none⟩)) ((l.drop 16).drop 2) false (fun k => k = b)) => show Calls Try.prog 34 #[.pointer (some ⟨b, 0, none⟩)] W (fun e w' => e = .returned (.int .i64 (typH l : Nat)) ∧ R w' (w.heap.size + 1) n (.pointer (some ⟨b, 0, none⟩)) (((l.drop 16).drop 2).drop 1) false (fun k => k = b) ∧ Only (fun k => k = b) W w') from
    (u8_any _ _ n _ false _ W HR3.out h).mono (by
      rintro e x ⟨rfl, hr, ho⟩
      have h1 : rest ((l.drop 16).drop 2) false 1 = ((l.drop 16).drop 2).drop 1 := congrArg Rd.l e5
      have h2 : fails ((l.drop 16).drop 2) false 1 = false := congrArg Rd.b e5
      have h3 : got ((l.drop 16).drop 2) false 1 = (l.drop 18).take 1 := by
        have h4 : got ((l.drop 16).drop 2) false 1 = ((l.drop 16).drop 2).take 1 := e6
        rw [h4, List.drop_drop]
      rw [h1, h2] at hr
      rw [h3, ← typ_val hl]
      exact ⟨rfl, hr, ho⟩))
  have CE := hid (fun (A : Option Addr) (c : Nat) (A2 : Option Addr) (c2 : Nat) (W : World) (h : U8s W (.slice A 16 c) (l.take 16)) (h2 : U8s W (.slice A2 16 c2) (List.replicate 16 255)) => equal8_any _ _ _ _ W h h2)
  have CM := hid (fun W => show Calls Try.prog 26 #[] W (fun e w' => ∃ A c, e = .returned (.slice A 16 c) ∧ U8s w' (.slice A 16 c) (List.replicate 16 255) ∧ Below W.heap.size W w') from marker_any W)
  have hN : lenH l < 65536 := lenH_lt hv.2
  have hT : typH l < 256 := by
    rw [typ_val hl]
    have := val_lt 1 (hv.2.drop 18)
    simpa using this
  have hd2 : [lo8 ((lenH l : Int) / 256), lo8 (lenH l : Int)] = (l.drop 16).take 2 := two_back ((hv.2.drop 16).take 2) (by rw [List.length_take, List.length_drop]; omega)
  have hd1 : [lo8 (typH l : Int)] = (l.drop 18).take 1 := by rw [typ_val hl]; exact one_back ((hv.2.drop 18).take 1) (by rw [List.length_take, List.length_drop]; omega)
  have hff := ff_all (l := l) (by omega)
  have HH : headH l = headH l := rfl
  conv at HH => rhs; unfold headH
  clear e1 e2 e3 e4 e5 e6 HR HR2 HR3 hal hv hl
  unfold JudgeF
  generalize headH l = H at HH ⊢
  generalize l.take 16 = M at CT CE hff HH
  generalize (l.drop 16).take 2 = D2 at hd2 HH
  generalize (l.drop 18).take 1 = D1 at hd1 HH
  generalize lenH l = N at CV hN hd2 HH ⊢
  generalize typH l = T at CU hT hd1 HH ⊢
  generalize ((l.drop 16).drop 2).drop 1 = L3 at CU
  generalize (l.drop 16).drop 2 = L2 at CU CV
  generalize l.drop 16 = L1 at CV CT
  have wN := wrap_lo8 (N : Int)
  have wN2 := wrap_lo8 ((N : Int) / 256)
  have wT := wrap_lo8 (T : Int)
  have hw : M ≠ List.replicate 16 255 ∨ (M = List.replicate 16 255 ∧ ((19 ≤ N ∧ N ≤ 4096) ∧ (T < 1 ∨ 4 < T) ∨ ((19 ≤ N ∧ N ≤ 4096) ∧ (1 ≤ T ∧ T ≤ 4) ∧ ¬ (N < leastH T ∨ T = 4 ∧ 19 < N)) ∨ N < 19 ∨ (19 ≤ N ∧ 4096 < N) ∨ ((19 ≤ N ∧ N ≤ 4096) ∧ (1 ≤ T ∧ T ≤ 4) ∧ (N < leastH T ∨ T = 4 ∧ 19 < N)))) := by
    by_cases h : M = List.replicate 16 255
    · refine .inr ⟨h, ?_⟩
      by_cases h2 : N < leastH T ∨ T = 4 ∧ 19 < N <;> omega
    · exact .inl h
  rcases hw with hM | ⟨hM, hw⟩
  focus
    rw [decide_eq_false hM] at CE
    rw [if_pos (by cases h : M.all (fun x => decide (x = 255)) with | true => exact absurd (hff.2 h) hM | false => rfl)] at HH
    subst HH
    show Calls _ _ _ _ (JudgeW ⟨1, 1, []⟩ 0 0 w)
    have CF := hid (fun (b n : Nat) (l : List Nat) W (h : JgSt w b n l W) => flt_none 1 W h)
  rotate_left
  rw [decide_eq_true hM] at CE
  rw [if_neg (by rw [hff.1 hM]; decide)] at HH
  clear hff hM
  rcases hw with ⟨hN2, hT2⟩ | ⟨hN2, hT2, hf⟩ | hN2 | hN2 | ⟨hN2, hT2, hf⟩
  focus
    rw [if_neg (by omega), if_pos hT2] at HH
    subst HH
    show Calls _ _ _ _ (JudgeW ⟨1, 3, D1⟩ 0 0 w)
    have z0 : 19 ≤ (N : Int) := by omega
    have z1 : (N : Int) ≤ 4096 := by omega
    have CW := hid (fun W => show Calls Try.prog 24 #[.int .i64 T] W (Tells (.bool false) W) from by
      have h := valid_any T W
      rw [decide_eq_false (by omega)] at h
      exact h)
    have CF := hid (fun (b n : Nat) (l : List Nat) W (h : JgSt w b n l W) => flt_lit 3 D1 #[.int .u8 (lo8 T)] 1 (by rw [← hd1]; intro y hy; rw [List.mem_singleton.1 hy]; exact lo8_lt _) (by rw [← hd1]; rfl) (by rw [← hd1]; rfl) (by decide) W h)
    clear hN2 hT2
  rotate_left
  focus
    rw [if_neg (by omega), if_neg (by omega), if_neg hf] at HH
    subst HH
    show Calls _ _ _ _ (JudgeW noneF T N w)
    have z0 : 19 ≤ (N : Int) := by omega
    have z1 : (N : Int) ≤ 4096 := by omega
    have CW := hid (fun W => show Calls Try.prog 24 #[.int .i64 T] W (Tells (.bool true) W) from by
      have h := valid_any T W
      rw [decide_eq_true (by omega)] at h
      exact h)
    have CX := hid (fun W => show Calls Try.prog 37 #[.int .i64 T, .int .i64 N] W (Tells (.bool true) W) from by
      have h := fits_any T N W (by omega) (by omega) (by omega)
      rw [decide_eq_false hf] at h
      exact h)
    clear hN2 hT2 hf
  rotate_left
  focus
    rw [if_pos (by omega)] at HH
    subst HH
    show Calls _ _ _ _ (JudgeW ⟨1, 2, D2⟩ 0 0 w)
    have z0 : (N : Int) < 19 := by omega
    have CF := hid (fun (b n : Nat) (l : List Nat) W (h : JgSt w b n l W) => flt_lit 2 D2 #[.int .u8 (lo8 ((N : Int) / 256)), .int .u8 (lo8 N)] 2 (by rw [← hd2]; intro y hy; simp only [List.mem_cons, List.not_mem_nil, or_false] at hy; rcases hy with rfl | rfl <;> exact lo8_lt _) (by rw [← hd2]; rfl) (by rw [← hd2]; rfl) (by decide) W h)
    clear hN2
  rotate_left
  focus
    rw [if_pos (by omega)] at HH
    subst HH
    show Calls _ _ _ _ (JudgeW ⟨1, 2, D2⟩ 0 0 w)
    have z0 : 19 ≤ (N : Int) := by omega
    have z1 : 4096 < (N : Int) := by omega
    have CF := hid (fun (b n : Nat) (l : List Nat) W (h : JgSt w b n l W) => flt_lit 2 D2 #[.int .u8 (lo8 ((N : Int) / 256)), .int .u8 (lo8 N)] 2 (by rw [← hd2]; intro y hy; simp only [List.mem_cons, List.not_mem_nil, or_false] at hy; rcases hy with rfl | rfl <;> exact lo8_lt _) (by rw [← hd2]; rfl) (by rw [← hd2]; rfl) (by decide) W h)
    clear hN2
  rotate_left
  focus
    rw [if_neg (by omega), if_neg (by omega), if_pos hf] at HH
    subst HH
    show Calls _ _ _ _ (JudgeW ⟨1, 2, D2⟩ 0 0 w)
    have z0 : 19 ≤ (N : Int) := by omega
    have z1 : (N : Int) ≤ 4096 := by omega
    have CW := hid (fun W => show Calls Try.prog 24 #[.int .i64 T] W (Tells (.bool true) W) from by
      have h := valid_any T W
      rw [decide_eq_true (by omega)] at h
      exact h)
    have CX := hid (fun W => show Calls Try.prog 37 #[.int .i64 T, .int .i64 N] W (Tells (.bool false) W) from by
      have h := fits_any T N W (by omega) (by omega) (by omega)
      rw [decide_eq_true hf] at h
      exact h)
    have CF := hid (fun (b n : Nat) (l : List Nat) W (h : JgSt w b n l W) => flt_lit 2 D2 #[.int .u8 (lo8 ((N : Int) / 256)), .int .u8 (lo8 N)] 2 (by rw [← hd2]; intro y hy; simp only [List.mem_cons, List.not_mem_nil, or_false] at hy; rcases hy with rfl | rfl <;> exact lo8_lt _) (by rw [← hd2]; rfl) (by rw [← hd2]; rfl) (by decide) W h)
    clear hN2 hT2 hf
  rotate_left
  all_goals
    clear hN hT
    go_enter Try.func23, Try.ntmps23
    go_wp2
    refine wp_scope_ahead 0 (by rfl) ?_
    go_wp2_with (first
      | (go_at_call 31; refine CN.out.mono ?_; rintro e x ⟨b, rfl, hr, hb⟩; have J0 := hid (jg_start hr hb); clear hr hb)
      | (have h := J0.out; go_at_call 32; refine (CT.out _ _ _ h.rd).mono ?_; rintro e x2 ⟨A1, c1, rfl, hu, hr, ho⟩; have U1 := hid hu; have J1 := hid (h.read hr ho); clear h hu hr ho J0)
      | (have h := J1.out; go_at_call 33; refine (CV.out _ _ _ h.rd).mono ?_; rintro e x3 ⟨rfl, hr, ho⟩; have U2 := hid (u8_stays U1.out (R.no8 h.rd) ho); have J2 := hid (h.read hr ho); clear h hr ho J1 U1)
      | (have h := J2.out; go_at_call 34; refine (CU.out _ _ _ h.rd).mono ?_; rintro e x4 ⟨rfl, hr, ho⟩; have U3 := hid (u8_stays U2.out (R.no8 h.rd) ho); have J3 := hid (h.read hr ho); clear h hr ho J2 U2)
      | (have h := J3.out; go_at_call 26; refine (CM.out _).mono ?_; rintro e x5 ⟨A5, c5, rfl, hu, hb⟩; have J := hid (h.keep hb); have U4 := hid (U3.out.keep hb); have V4 := hid hu; clear h hu hb J3 U3; obtain ⟨c0, c1, c2⟩ := J.out.box.cells; have ff := J.out.box.free)
      | (have h := U4.out; go_at_call 35; refine (CE.out _ _ _ _ _ h V4.out).mono ?_; rintro e x6 ⟨rfl, rfl⟩; clear h)
      | (go_at_call 24; refine (CW.out _).mono ?_; rintro e x7 ⟨rfl, hb⟩; replace J := hid (J.out.keep hb); clear hb c0 c1 c2 ff; obtain ⟨c0, c1, c2⟩ := J.out.box.cells; have ff := J.out.box.free)
      | (go_at_call 37; refine (CX.out _).mono ?_; rintro e x8 ⟨rfl, hb⟩; replace J := hid (J.out.keep hb); clear hb c0 c1 c2 ff; obtain ⟨c0, c1, c2⟩ := J.out.box.cells; have ff := J.out.box.free)
      | (go_at_call 36; refine (CF.out _ _ _ _ J.out).mono ?_; rintro e x9 ⟨A9, k9, c9, rfl, hu, hz, hj⟩; have U9 := hid (And.intro hu hz); replace J := hid hj; clear hu hz hj c0 c1 c2 ff; obtain ⟨c0, c1, c2⟩ := J.out.box.cells; have ff := J.out.box.free))
  · rw [jump_ret]
    have r0 := (J.out.box.set0 (.int .i64 1)).cells.1
    have r1 := ((J.out.box.set0 (.int .i64 1)).set1 (.int .i64 1)).cells.2.1
    have r2 := (J.out.box.laid (.int .i64 1) (.int .i64 1) (.slice A9 k9 c9)).cells.2.2
    unfold three at r2
    refine bodyPost_ret (v := .tuple #[.int .i64 0, .int .i64 0, .agg #[.int .i64 1, .int .i64 1, (.slice A9 k9 c9)]]) (by simp [results, Try.results23, go_sem, r0, r1, r2]) rfl ?_
    exact judge_end J.out U9.out.1 U9.out.2
  · rw [jump_ret]
    have r0 := (J.out.box.set0 (.int .i64 1)).cells.1
    have r1 := ((J.out.box.set0 (.int .i64 1)).set1 (.int .i64 3)).cells.2.1
    have r2 := (J.out.box.laid (.int .i64 1) (.int .i64 3) (.slice A9 k9 c9)).cells.2.2
    unfold three at r2
    refine bodyPost_ret (v := .tuple #[.int .i64 0, .int .i64 0, .agg #[.int .i64 1, .int .i64 3, (.slice A9 k9 c9)]]) (by simp [results, Try.results23, go_sem, r0, r1, r2]) rfl ?_
    exact judge_end J.out U9.out.1 U9.out.2
  · rw [jump_ret]
    have r0 := (J.out.box.set0 (.int .i64 0)).cells.1
    have r1 := ((J.out.box.set0 (.int .i64 0)).set1 (.int .i64 0)).cells.2.1
    have r2 := (J.out.box.laid (.int .i64 0) (.int .i64 0) (.slice none 0 0)).cells.2.2
    unfold three at r2
    refine bodyPost_ret (v := .tuple #[.int .i64 (T : Nat), .int .i64 (N : Nat), .agg #[.int .i64 0, .int .i64 0, (.slice none 0 0)]]) (by simp [results, Try.results23, go_sem, r0, r1, r2]) rfl ?_
    exact judge_end J.out (U8s.nil _) (off_none _ _ _)
  all_goals
    go_step3
    refine ⟨rfl, ?_⟩
    go_wp2_with (go_at_call 36; refine (CF.out _ _ _ _ J.out).mono ?_; rintro e x9 ⟨A9, k9, c9, rfl, hu, hz, hj⟩; have U9 := hid (And.intro hu hz); replace J := hid hj; clear hu hz hj c0 c1 c2 ff; obtain ⟨c0, c1, c2⟩ := J.out.box.cells; have ff := J.out.box.free)
    rw [Exit.noGoto_ret]
    have r0 := (J.out.box.set0 (.int .i64 1)).cells.1
    have r1 := ((J.out.box.set0 (.int .i64 1)).set1 (.int .i64 2)).cells.2.1
    have r2 := (J.out.box.laid (.int .i64 1) (.int .i64 2) (.slice A9 k9 c9)).cells.2.2
    unfold three at r2
    refine bodyPost_ret (v := .tuple #[.int .i64 0, .int .i64 0, .agg #[.int .i64 1, .int .i64 2, (.slice A9 k9 c9)]]) (by simp [results, Try.results23, go_sem, r0, r1, r2]) rfl ?_
    exact judge_end J.out U9.out.1 U9.out.2
end Go.Proofs.Ytgeekckoepnccaa.Frm
