/- NoticeWrites' walk. -/
import Derived.Test.YtplolahbjebbaaaDoorNtcLives
import Derived.Test.YtplolahbjebbaaaDoorNtcDec
import Derived.Test.YtplolahbjebbaaaDoorNtcKept
import Derived.Test.YtplolahbjebbaaaDoorTakeKit
import Derived.Test.YtplolahbjebbaaaDoorOctMake
import Derived.IntWalk
import Derived.Deep.RegionHeld3
import Derived.Deep.DeepCutAuto
namespace Go.Proofs.YtplolahbjebbaaaDoor.Ntc
open Go.RowKit Mem Oct Att Pfx
open Go.Lib (hid)

theorem two_ntc (w : World) (x y z a b c : Value) : Box3 ((w.alloc (.cells #[x, y, z] 24)).alloc (.cells #[a, b, c] 24)) w.heap.size 24 x y z ∧
    Box3 ((w.alloc (.cells #[x, y, z] 24)).alloc (.cells #[a, b, c] 24)) (w.heap.size + 1) 24 a b c ∧ Below w.heap.size w ((w.alloc (.cells #[x, y, z] 24)).alloc (.cells #[a, b, c] 24)) := by
  have h1 := Box3.new w 24 x y z
  have b1 := ntc_box w x y z
  have e1 : (w.alloc (.cells #[x, y, z] 24)).heap.size = w.heap.size + 1 := by simp
  have h2 := Box3.new (w.alloc (.cells #[x, y, z] 24)) 24 a b c
  rw [e1] at h2
  exact ⟨h1.keep (ntc_box _ _ _ _), h2, b1.alloc b1.size _⟩
/-- What a good notice is written as is read as it is. -/
theorem dec_enc {q : No} (h : goodN q = true) : okN (encN q) = true ∧ outN (encN q) = q := by
  obtain ⟨c, s, D⟩ := q
  have hq := goodN_of h
  dsimp only at hq
  have e1 : ((lo8 c : Nat) : Int) = c := by unfold lo8; omega
  have e2 : ((lo8 s : Nat) : Int) = s := by unfold lo8; omega
  have e : encN ⟨c, s, D⟩ = lo8 c :: lo8 s :: D := rfl
  have ok : okN (encN ⟨c, s, D⟩) = true := by rw [e, ok_two, e1, e2]; exact h
  refine ⟨ok, ?_⟩
  unfold outN
  rw [ok, if_pos rfl, e, (read_two _ _ _).1, e1, e2]
set_option maxRecDepth 100000 in
set_option maxHeartbeats 8000000 in
theorem writes_walk (va vb : Value) (n m : No) (u : Nat) (hu : u < 256) (w : World) (ha : Note w va n) (hb : Note w vb m) :
    Calls Tryd.prog 3 #[va, vb, .int .u8 u] w (Tells (.bool true) w) := by
  obtain ⟨wa1, wa2, vd, rfl, hd⟩ := ha
  obtain ⟨wb1, wb2, vd', rfl, hd'⟩ := hb
  have C1 := hid (fun W (h : Below w.heap.size w W) => show Calls Tryd.prog 6 #[vd, .int .i64 300] W (Gives8 (n.data.take 300) W) from bytes_any vd n.data 300 W (hd.keep h) (by decide))
  have C2 := hid (fun W (h : Below w.heap.size w W) => show Calls Tryd.prog 6 #[vd', .int .i64 300] W (Gives8 (m.data.take 300) W) from bytes_any vd' m.data 300 W (hd'.keep h) (by decide))
  have HS1 := hid (hd.2.take 300)
  have HS2 := hid (hd'.2.take 300)
  have HL1 := hid (show (n.data.take 300).length ≤ 300 by rw [List.length_take]; omega)
  have HL2 := hid (show (m.data.take 300).length ≤ 300 by rw [List.length_take]; omega)
  obtain ⟨c, s, l⟩ := n
  obtain ⟨c', s', l'⟩ := m
  dsimp only at *
  generalize l.take 300 = L at C1 HS1 HL1
  generalize l'.take 300 = L' at C2 HS2 HL2
  obtain ⟨Ad, cd, rfl, -, -⟩ := hd.form
  obtain ⟨Ae, ce, rfl, -, -⟩ := hd'.form
  generalize l.length = k at *
  generalize l'.length = k' at *
  have W1 := hid (And.intro wa1 (And.intro wa2 (And.intro wb1 wb2)))
  have X0 := hid (two_ntc w (.int .i64 c) (.int .i64 s) (.slice Ad k cd) (.int .i64 c') (.int .i64 s') (.slice Ae k' ce))
  clear hd hd' wa1 wa2 wb1 wb2
  go_enter Tryd.func3, Tryd.ntmps3
  go_upto_region 1 with fail
  generalize (w.alloc (.cells #[.int .i64 c, .int .i64 s, .slice Ad k cd] 24)).alloc (.cells #[.int .i64 c', .int .i64 s', .slice Ae k' ce] 24) = W0 at X0 ⊢
  go_cut [] (fun wx => ∃ (A1 : Option Addr) (c1 : Nat) (A2 : Option Addr) (c2 : Nat), Hid (KeptN wx w.heap.size ⟨c, s, L⟩ (.slice A1 L.length c1) ∧ KeptN wx (w.heap.size + 1) ⟨c', s', L'⟩ (.slice A2 L'.length c2) ∧ Below w.heap.size w wx))
  case first =>
    have X := hid (And.intro (X0.out.1.keep (Below.refl _ _).drew) (And.intro (X0.out.2.1.keep (Below.refl _ _).drew) X0.out.2.2.drew))
    obtain ⟨-, -, p2⟩ := X.out.1.cells
    obtain ⟨-, -, q2⟩ := X.out.2.1.cells
    refine wp_region_noPanic ?_
    refine wp_region_held_drew (S := fun _ => True) (by kernel_rfl) trivial (fun hHeld => ?_)
    refine Take.tk 0 11 hHeld ?_
    refine Take.tk 3 14 hHeld ?_
    try simp only [Act.put, Take.nm]
    clear hHeld
    refine wpAnyH_ready (rs := [1, 4]) (by kernel_rfl) (by simp) ?_
    refine AllReadyH.cons (o := _) (by rfl) (fun K hK => ?_) (AllReadyH.cons (o := _) (by rfl) (fun K hK => ?_) AllReadyH.nil)
    focus
      go_simp
      refine hK.out _ _ trivial (fun _ => ?_)
      clear hK K
      try simp only [Act.put, Take.nm]
      refine wpAnyH_ready (rs := [2, 4]) (by kernel_rfl) (by simp) ?_
      refine AllReadyH.cons (o := _) (by rfl) (fun K hK => ?_) (AllReadyH.cons (o := _) (by rfl) (fun K hK => ?_) AllReadyH.nil)
    focus
      go_simp; go_at_call 6; refine (C1.out _ X.out.2.2).mono ?_; rintro e x ⟨A1, c1, rfl, ho, hb⟩; have U := hid (U8s.of_own ho HS1.out); replace X := hid (And.intro (X.out.1.keep hb) (And.intro (X.out.2.1.keep hb) (X.out.2.2.trans (hb.mono X.out.2.2.size)))); clear ho hb p2 q2; obtain ⟨-, -, p2⟩ := X.out.1.cells; obtain ⟨-, -, q2⟩ := X.out.2.1.cells
      refine hK.out _ _ trivial (fun _ => ?_)
      clear hK K
      try simp only [Act.put, Take.nm]
      refine Take.tk 6 17 trivial ?_
      try simp only [Act.put, Take.nm]
      refine wpAnyH_ready (rs := [4]) (by kernel_rfl) (by simp) ?_
      refine AllReadyH.cons (o := _) (by rfl) (fun K hK => ?_) AllReadyH.nil
      go_simp
      refine hK.out _ _ trivial (fun _ => ?_)
      clear hK K
      try simp only [Act.put, Take.nm]
    rotate_left
    focus
      go_simp
      refine hK.out _ _ trivial (fun _ => ?_)
      clear hK K
      try simp only [Act.put, Take.nm]
      refine wpAnyH_ready (rs := [2]) (by kernel_rfl) (by simp) ?_
      refine AllReadyH.cons (o := _) (by rfl) (fun K hK => ?_) AllReadyH.nil
      go_simp; go_at_call 6; refine (C1.out _ X.out.2.2).mono ?_; rintro e x ⟨A1, c1, rfl, ho, hb⟩; have U := hid (U8s.of_own ho HS1.out); replace X := hid (And.intro (X.out.1.keep hb) (And.intro (X.out.2.1.keep hb) (X.out.2.2.trans (hb.mono X.out.2.2.size)))); clear ho hb p2 q2; obtain ⟨-, -, p2⟩ := X.out.1.cells; obtain ⟨-, -, q2⟩ := X.out.2.1.cells
      refine hK.out _ _ trivial (fun _ => ?_)
      clear hK K
      try simp only [Act.put, Take.nm]
      refine Take.tk 6 17 trivial ?_
      try simp only [Act.put, Take.nm]
    rotate_left
    focus
      go_simp
      refine hK.out _ _ trivial (fun _ => ?_)
      clear hK K
      try simp only [Act.put, Take.nm]
      refine wpAnyH_ready (rs := [1]) (by kernel_rfl) (by simp) ?_
      refine AllReadyH.cons (o := _) (by rfl) (fun K hK => ?_) AllReadyH.nil
      go_simp
      refine hK.out _ _ trivial (fun _ => ?_)
      clear hK K
      try simp only [Act.put, Take.nm]
      refine wpAnyH_ready (rs := [2]) (by kernel_rfl) (by simp) ?_
      refine AllReadyH.cons (o := _) (by rfl) (fun K hK => ?_) AllReadyH.nil
      go_simp; go_at_call 6; refine (C1.out _ X.out.2.2).mono ?_; rintro e x ⟨A1, c1, rfl, ho, hb⟩; have U := hid (U8s.of_own ho HS1.out); replace X := hid (And.intro (X.out.1.keep hb) (And.intro (X.out.2.1.keep hb) (X.out.2.2.trans (hb.mono X.out.2.2.size)))); clear ho hb p2 q2; obtain ⟨-, -, p2⟩ := X.out.1.cells; obtain ⟨-, -, q2⟩ := X.out.2.1.cells
      refine hK.out _ _ trivial (fun _ => ?_)
      clear hK K
      try simp only [Act.put, Take.nm]
      refine Take.tk 6 17 trivial ?_
      try simp only [Act.put, Take.nm]
    rotate_left
    all_goals
      refine wpAnyH_ready (rs := [5]) (by kernel_rfl) (by simp) ?_
      refine AllReadyH.cons (o := _) (by rfl) (fun K hK => ?_) AllReadyH.nil
      go_simp; go_at_call 6; refine (C2.out _ X.out.2.2).mono ?_; rintro e y ⟨A2, c2, rfl, ho, hb⟩; have V := hid (U8s.of_own ho HS2.out); replace U := hid (U.out.keep hb); replace X := hid (And.intro (X.out.1.keep hb) (And.intro (X.out.2.1.keep hb) (X.out.2.2.trans (hb.mono X.out.2.2.size)))); clear ho hb p2 q2; obtain ⟨-, -, p2⟩ := X.out.1.cells; have ff := X.out.1.free; obtain ⟨k1, k2⟩ := kept_store X.out.1 W1.out.1 W1.out.2.1 U.out; have kf := X.out.2.1.far (C := w.heap.size) (i := 2) (by omega) (.slice A1 L.length c1); have q3 := kf.cells.2.2; have fg := kf.free; obtain ⟨k3, k4⟩ := kept_store kf W1.out.2.2.1 W1.out.2.2.2 (k2 _ _ V.out); have KK := hid (And.intro (KeptN.mk (k1.box.far (C := w.heap.size + 1) (i := 2) (by omega) (.slice A2 L'.length c2)) ⟨W1.out.1, W1.out.2.1, _, rfl, k4 _ _ k1.dat⟩) (And.intro k3 ((X.out.2.2.setCell (p := ⟨w.heap.size, 2, none⟩) (Nat.le_refl _) (.slice A1 L.length c1)).setCell (p := ⟨w.heap.size + 1, 2, none⟩) (Nat.le_succ _) (.slice A2 L'.length c2)))); clear k1 k2 k3 k4 kf U V
      refine hK.out _ _ trivial (fun _ => ?_)
      clear hK K
      try simp only [Act.put, Take.nm]
      refine wpAnyH_ready (rs := [7]) (by kernel_rfl) (by simp) ?_
      refine AllReadyH.cons (o := _) (by rfl) (fun K hK => ?_) AllReadyH.nil
      go_simp
      refine hK.out _ _ trivial (fun _ => ?_)
      clear hK K
      try simp only [Act.put, Take.nm]
      refine Take.tk 8 18 trivial ?_
      try simp only [Act.put, Take.nm]
      refine wpAnyH_ready (rs := [9]) (by kernel_rfl) (by simp) ?_
      refine AllReadyH.cons (o := _) (by rfl) (fun K hK => ?_) AllReadyH.nil
      go_simp
      refine hK.out _ _ trivial (fun _ => ?_)
      clear hK K
      try simp only [Act.put, Take.nm]
      refine wpAnyH_done (by kernel_rfl) ?_ _
      refine NoPanic.normal ?_
      go_wp2
      go_meet
      exact ⟨A1, c1, A2, c2, KK⟩
  case rest =>
  obtain ⟨A1, c1, A2, c2, ST⟩ := hcut
  generalize wc = wk at ST ⊢
  clear C1 C2 X0 HL2 HS2
  go_upto_if 20 with fail
  go_cut [] (fun wx => ∃ (v3 : Value) (D : List Nat), Hid (D.length ≤ 4078) ∧ Hid (KeptN wx w.heap.size ⟨c, s, D⟩ v3 ∧ KeptN wx (w.heap.size + 1) ⟨c', s', L'⟩ (.slice A2 L'.length c2) ∧ Below w.heap.size w wx))
  case first =>
    by_cases hl : 250 < u
    · have z1 : (u : Int) > 250 := by omega
      have wu : IntKind.i64.wrap (u : Int) = (u : Int) := IntWalk.i64_in _ (by omega)
      obtain ⟨D, hD⟩ : ∃ D : List Nat, D = List.replicate (u + 3823) 0 := ⟨_, rfl⟩
      have hDn : D.length = u + 3823 := by rw [hD]; exact List.length_replicate
      have mk := make8 (u + 3823) (by omega) wk
      rw [show ((u + 3823 : Nat) : Int) = 4075 + (u : Int) - 252 by omega] at mk
      have hb := (Below.refl wk.heap.size wk).alloc (Nat.le_refl _) (.cells (Array.replicate (u + 3823) (Value.int .u8 0)) 5)
      have hlit := lit8 wk D (Array.replicate (u + 3823) (Value.int .u8 0)) (u + 3823) (fun y hy => by rw [hD] at hy; rw [(List.mem_replicate.1 hy).2]; decide) (by rw [hD, cells_rep]; simp) hDn.symm (by omega)
      have HDL := hid (show D.length ≤ 4078 by omega)
      obtain ⟨k1, k2⟩ := kept_store (ST.out.1.below hb).box W1.out.1 W1.out.2.1 hlit
      have k3 := ST.out.2.1.below hb
      have KK := hid (And.intro k1 (And.intro (KeptN.mk (k3.box.far (C := w.heap.size) (i := 2) (by omega) (.slice (some ⟨wk.heap.size, 0, none⟩) (u + 3823) (u + 3823))) ⟨W1.out.2.2.1, W1.out.2.2.2, _, rfl, k2 _ _ k3.dat⟩) ((ST.out.2.2.trans (hb.mono ST.out.2.2.size)).setCell (p := ⟨w.heap.size, 2, none⟩) (Nat.le_refl _) (.slice (some ⟨wk.heap.size, 0, none⟩) (u + 3823) (u + 3823)))))
      obtain ⟨-, -, p2⟩ := (ST.out.1.below hb).cells
      have ff := (ST.out.1.below hb).box.free
      clear hD hDn hlit hb k1 k2 k3 ST hl
      go_wp2
      go_meet
      exact ⟨_, D, HDL, KK⟩
    · have z1 : (u : Int) ≤ 250 := by omega
      go_wp2
      go_meet
      exact ⟨_, L, hid (Nat.le_trans HL1.out (by decide)), ST⟩
  case rest =>
  obtain ⟨v3, D, HDL, hST⟩ := hcut
  clear ST
  have ST := hST
  have HDS := hid ST.out.1.dat.2
  clear hST
  generalize wc = wl at ST ⊢
  generalize (Value.slice A2 L'.length c2) = v4 at ST ⊢
  clear HS1 HL1 W1
  have CB := hid (fun W (h : U8s W v3 D) => show Calls Tryd.prog 6 #[v3, .int .i64 5000] W (Gives8 D W) from by
    have h3 := bytes_any v3 D 5000 W h (by decide)
    rw [List.take_of_length_le (by have := HDL.out; omega)] at h3
    exact h3)
  go_upto_region 4 with fail
  have HWF := hid (And.intro ST.out.1.no.1 ST.out.1.no.2.1)
  obtain ⟨EB, er, hEW, hEs, hEl, hCE⟩ := enc_all ⟨c, s, D⟩ HDS.out
  have CE := hid (fun v W (h : U8s W v D) => hCE (.agg #[.int .i64 c, .int .i64 s, v]) W ⟨HWF.out.1, HWF.out.2, v, rfl, h⟩)
  have CG := hid (fun v W (h : Note W v ⟨c, s, D⟩) => good_any v _ W h)
  have CH := hid (fun v W (h : Note W v ⟨c, s, D⟩) => rgood_any v _ W h)
  have CS := hid (fun v x W (h : Note W v ⟨c, s, D⟩) (h2 : Note W x ⟨c', s', L'⟩) => same_any v x _ _ W h h2)
  have CT := hid (fun v x W (h : Note W v ⟨c, s, D⟩) (h2 : Note W x ⟨c', s', L'⟩) => told_any v x _ _ W h h2)
  have CN := hid (fun v W (h : Note W v ⟨c, s, D⟩) => none_any v _ W h)
  have CO := hid (fun v W (h : Note W v ⟨c, s, D⟩) => told_any v _ _ noN W h (note_zero W))
  have HEW := hid hEW
  have HES := hid hEs
  have HEL := hid hEl
  clear hEW hEs hEl hCE
  generalize sameN ⟨c, s, D⟩ ⟨c', s', L'⟩ = sm at CS CT
  generalize sameN ⟨c, s, D⟩ noN = sn at CN CO
  generalize hg : goodN ⟨c, s, D⟩ = g at CG CH
  have HG := hid hg
  have y1 : (sm != sm) = false := by simp
  have y2 : (sn != sn) = false := by simp
  have y3 : (g != g) = false := by simp
  clear hg
  replace ST := hid (And.intro (ST.out.1.below (Below.refl _ _).drew) (And.intro (ST.out.2.1.below (Below.refl _ _).drew) ST.out.2.2.drew))
  obtain ⟨p0, p1, p2⟩ := ST.out.1.cells
  obtain ⟨q0, q1, q2⟩ := ST.out.2.1.cells
  have T0 := hid True.intro
  go_region_held3 (fun w' => (w'.cell? ⟨w.heap.size, 0, none⟩ = some (.int .i64 c) ∧ w'.cell? ⟨w.heap.size, 1, none⟩ = some (.int .i64 s) ∧ w'.cell? ⟨w.heap.size, 2, none⟩ = some v3) ∧ (w'.cell? ⟨w.heap.size + 1, 0, none⟩ = some (.int .i64 c') ∧ w'.cell? ⟨w.heap.size + 1, 1, none⟩ = some (.int .i64 s') ∧ w'.cell? ⟨w.heap.size + 1, 2, none⟩ = some v4)) (exact ⟨⟨by assumption, by assumption, by assumption⟩, ⟨by assumption, by assumption, by assumption⟩⟩) (first
    | (have tok := T1.out; go_at_call 7; refine (CE.out _ _ V.out).mono ?_; rintro e x1 ⟨A5, c5, rfl, ho, hb⟩; have U := hid (U8s.of_own ho HES.out); clear ho V; replace ST := hid (And.intro (ST.out.1.below hb) (And.intro (ST.out.2.1.below hb) (ST.out.2.2.trans (hb.mono ST.out.2.2.size)))); clear hb tok T1; have T2 := hid True.intro; clear p0 p1 p2 q0 q1 q2; obtain ⟨p0, p1, p2⟩ := ST.out.1.cells; obtain ⟨q0, q1, q2⟩ := ST.out.2.1.cells)
    | (have tok := T0.out; go_at_call 6; refine (CB.out _ ST.out.1.dat).mono ?_; rintro e x0 ⟨A6, c6, rfl, ho, hb⟩; have V := hid (U8s.of_own ho HDS.out); clear ho; replace ST := hid (And.intro (ST.out.1.below hb) (And.intro (ST.out.2.1.below hb) (ST.out.2.2.trans (hb.mono ST.out.2.2.size)))); clear hb tok T0; have T1 := hid True.intro; clear p0 p1 p2 q0 q1 q2; obtain ⟨p0, p1, p2⟩ := ST.out.1.cells; obtain ⟨q0, q1, q2⟩ := ST.out.2.1.cells))
  go_upto_region 5 with fail
  go_cut [60] (fun s60 wx => s60 = .bool false ∧ Hid (U8s wx (.slice A5 EB.length c5) EB) ∧ Hid (KeptN wx w.heap.size ⟨c, s, D⟩ v3 ∧ KeptN wx (w.heap.size + 1) ⟨c', s', L'⟩ v4 ∧ Below w.heap.size w wx))
  case first =>
    replace ST := hid (And.intro (ST.out.1.below (Below.refl _ _).drew) (And.intro (ST.out.2.1.below (Below.refl _ _).drew) ST.out.2.2.drew))
    replace U := hid (U.out.keep (Below.refl _ _).drew)
    clear p0 p1 p2 q0 q1 q2; obtain ⟨p0, p1, p2⟩ := ST.out.1.cells; obtain ⟨q0, q1, q2⟩ := ST.out.2.1.cells
    go_region_held3 (fun w' => (w'.cell? ⟨w.heap.size, 0, none⟩ = some (.int .i64 c) ∧ w'.cell? ⟨w.heap.size, 1, none⟩ = some (.int .i64 s) ∧ w'.cell? ⟨w.heap.size, 2, none⟩ = some v3) ∧ (w'.cell? ⟨w.heap.size + 1, 0, none⟩ = some (.int .i64 c') ∧ w'.cell? ⟨w.heap.size + 1, 1, none⟩ = some (.int .i64 s') ∧ w'.cell? ⟨w.heap.size + 1, 2, none⟩ = some v4)) (exact ⟨⟨by assumption, by assumption, by assumption⟩, ⟨by assumption, by assumption, by assumption⟩⟩) (first
      | (have tok := T7.out; go_at_call 11; refine (CO.out _ _ ST.out.1.no).mono ?_; rintro e x7 ⟨rfl, hb⟩; replace U := hid (U.out.keep hb); replace ST := hid (And.intro (ST.out.1.below hb) (And.intro (ST.out.2.1.below hb) (ST.out.2.2.trans (hb.mono ST.out.2.2.size)))); clear hb tok T7; have T8 := hid True.intro; clear p0 p1 p2 q0 q1 q2; obtain ⟨p0, p1, p2⟩ := ST.out.1.cells; obtain ⟨q0, q1, q2⟩ := ST.out.2.1.cells)
      | (have tok := T6.out; go_at_call 12; refine (CN.out _ _ ST.out.1.no).mono ?_; rintro e x6 ⟨rfl, hb⟩; replace U := hid (U.out.keep hb); replace ST := hid (And.intro (ST.out.1.below hb) (And.intro (ST.out.2.1.below hb) (ST.out.2.2.trans (hb.mono ST.out.2.2.size)))); clear hb tok T6; have T7 := hid True.intro; clear p0 p1 p2 q0 q1 q2; obtain ⟨p0, p1, p2⟩ := ST.out.1.cells; obtain ⟨q0, q1, q2⟩ := ST.out.2.1.cells)
      | (have tok := T5.out; go_at_call 11; refine (CT.out _ _ _ ST.out.1.no ST.out.2.1.no).mono ?_; rintro e x5 ⟨rfl, hb⟩; replace U := hid (U.out.keep hb); replace ST := hid (And.intro (ST.out.1.below hb) (And.intro (ST.out.2.1.below hb) (ST.out.2.2.trans (hb.mono ST.out.2.2.size)))); clear hb tok T5; have T6 := hid True.intro; clear p0 p1 p2 q0 q1 q2; obtain ⟨p0, p1, p2⟩ := ST.out.1.cells; obtain ⟨q0, q1, q2⟩ := ST.out.2.1.cells)
      | (have tok := T4.out; go_at_call 10; refine (CS.out _ _ _ ST.out.1.no ST.out.2.1.no).mono ?_; rintro e x4 ⟨rfl, hb⟩; replace U := hid (U.out.keep hb); replace ST := hid (And.intro (ST.out.1.below hb) (And.intro (ST.out.2.1.below hb) (ST.out.2.2.trans (hb.mono ST.out.2.2.size)))); clear hb tok T4; have T5 := hid True.intro; clear p0 p1 p2 q0 q1 q2; obtain ⟨p0, p1, p2⟩ := ST.out.1.cells; obtain ⟨q0, q1, q2⟩ := ST.out.2.1.cells)
      | (have tok := T3.out; go_at_call 9; refine (CH.out _ _ ST.out.1.no).mono ?_; rintro e x3 ⟨rfl, hb⟩; replace U := hid (U.out.keep hb); replace ST := hid (And.intro (ST.out.1.below hb) (And.intro (ST.out.2.1.below hb) (ST.out.2.2.trans (hb.mono ST.out.2.2.size)))); clear hb tok T3; have T4 := hid True.intro; clear p0 p1 p2 q0 q1 q2; obtain ⟨p0, p1, p2⟩ := ST.out.1.cells; obtain ⟨q0, q1, q2⟩ := ST.out.2.1.cells)
      | (have tok := T2.out; go_at_call 8; refine (CG.out _ _ ST.out.1.no).mono ?_; rintro e x2 ⟨rfl, hb⟩; replace U := hid (U.out.keep hb); replace ST := hid (And.intro (ST.out.1.below hb) (And.intro (ST.out.2.1.below hb) (ST.out.2.2.trans (hb.mono ST.out.2.2.size)))); clear hb tok T2; have T3 := hid True.intro; clear p0 p1 p2 q0 q1 q2; obtain ⟨p0, p1, p2⟩ := ST.out.1.cells; obtain ⟨q0, q1, q2⟩ := ST.out.2.1.cells))
    go_wp2
    go_meet
    exact ⟨rfl, U, ST⟩
  case rest =>
  obtain ⟨rfl, hU, hST⟩ := hcut
  clear U ST CS CT CN CO y1 y2 y3 CE CB
  have U := hU
  have ST := hST
  clear hU hST
  clear p0 p1 p2 q0 q1 q2
  obtain ⟨p0, p1, p2⟩ := ST.out.1.cells
  obtain ⟨q0, q1, q2⟩ := ST.out.2.1.cells
  have CLV := hid lives11_any
  rcases HEW.out with ⟨hb, rfl, rfl⟩ | ⟨hb, hE, rfl⟩
  · obtain rfl : g = false := HG.out.symm.trans hb
    dsimp only [List.length_nil] at U ⊢
    clear HEW hb HG HEL HES
    go_wp2_with (first
      | (go_at_call 9; refine (CH.out _ _ ST.out.1.no).mono ?_; rintro e x9 ⟨rfl, hb⟩; replace ST := hid (And.intro (ST.out.1.below hb) (And.intro (ST.out.2.1.below hb) (ST.out.2.2.trans (hb.mono ST.out.2.2.size)))); clear hb; clear p0 p1 p2 q0 q1 q2; obtain ⟨p0, p1, p2⟩ := ST.out.1.cells; obtain ⟨q0, q1, q2⟩ := ST.out.2.1.cells)
      | (go_at_call 13; refine (CLV.out _).mono ?_; rintro e x10 ⟨rfl, hb⟩; have B := hid (ST.out.2.2.trans (hb.mono ST.out.2.2.size)); clear hb))
    go_ret
    exact ⟨rfl, B.out⟩
  · obtain rfl : g = true := HG.out.symm.trans hb
    have hde := dec_enc hb
    rw [← hE] at hde
    have HQ := hid hb
    have HE := hid hE
    have CD := hid (fun v W (h : U8s W v EB) => (decode_any v EB W h (by have := HEL.out; omega)).mono (R' := fun e w' => ∃ A k d, e = .returned (.tuple #[.agg #[.int .i64 c, .int .i64 s, .slice A k d], .bool true]) ∧ Note w' (.agg #[.int .i64 c, .int .i64 s, .slice A k d]) ⟨c, s, D⟩ ∧ Below W.heap.size W w') fun e w' ⟨x, h1, h2, h3⟩ => by
      rw [hde.1] at h1
      rw [hde.2] at h2
      have h4 := h2
      obtain ⟨-, -, y, rfl, hd⟩ := h4
      obtain ⟨A, d, rfl, -, -⟩ := hd.form
      exact ⟨A, _, d, h1, h2, h3⟩)
    obtain ⟨i0, E0⟩ := elem8
    clear HEW hb HG hde hE
    go_upto_region 10 with (first
      | (go_at_call 9; refine (CH.out _ _ ST.out.1.no).mono ?_; rintro e x9 ⟨rfl, hb⟩; replace ST := hid (And.intro (ST.out.1.below hb) (And.intro (ST.out.2.1.below hb) (ST.out.2.2.trans (hb.mono ST.out.2.2.size)))); replace U := hid (U.out.keep hb); clear hb p0 p1 p2 q0 q1 q2; have hb : Below x9.heap.size x9 (x9.alloc (.cells #[] 5)) := (Below.refl _ _).alloc (Nat.le_refl _) _; have O := hid (own_blk (W := x9.alloc (.cells #[] 5)) (base := x9.heap.size) (B := x9.heap.size) (Nat.le_refl _) (heap_alloc_new _ _)); have U3 := hid (U.out.keep hb); have HB := hid hb; clear hb)
      | (at_builtin; refine wpList_append_row rfl (.tmp 75) (.tmp 76) rfl E0 x9.heap.size _ 0 _ rfl O.out _ EB.length (cells8 EB) rfl U3.out.1 (ones8 _) (by have := HEL.out; unfold maxLen; omega) (by have := HEL.out; omega) HB.out.size (EB.length) (Nat.zero_add _) ?_; intro A7 c7 xa hown hgr hat hb1; have V := hid (U8s.of_own (l := EB) hown HES.out); have hb := HB.out.trans hb1; replace ST := hid (And.intro (ST.out.1.below hb) (And.intro (ST.out.2.1.below hb) (ST.out.2.2.trans (hb.mono ST.out.2.2.size)))); replace U := hid (U.out.keep hb); clear hown hgr hat hb1 hb O U3 HB)
      | (go_at_call 14; refine (CD.out _ _ V.out).mono ?_; rintro e xb ⟨A8, k8, c8, rfl, hn, hb⟩; replace ST := hid (And.intro (ST.out.1.below hb) (And.intro (ST.out.2.1.below hb) (ST.out.2.2.trans (hb.mono ST.out.2.2.size)))); replace U := hid (U.out.keep hb); have hn2 := hn; clear hb V; have hb := ntc_box xb (.int .i64 c) (.int .i64 s) (.slice A8 k8 c8); replace ST := hid (And.intro (ST.out.1.below hb) (And.intro (ST.out.2.1.below hb) (ST.out.2.2.trans (hb.mono ST.out.2.2.size)))); replace U := hid (U.out.keep hb); have N8 := hid (hn.keep hb); have X8 := hid (Box3.new xb 24 (.int .i64 c) (.int .i64 s) (.slice A8 k8 c8)); clear hb hn hn2))
    generalize xb.alloc (.cells #[.int .i64 c, .int .i64 s, .slice A8 k8 c8] 24) = wy at ST U N8 X8 ⊢
    generalize xb.heap.size = bx at X8 ⊢
    have CT := hid (fun v x W (h1 : Note W v ⟨c, s, D⟩) (h2 : Note W x ⟨c, s, D⟩) => show Calls Tryd.prog 11 #[v, x] W (Tells (.bool true) W) from by
      have h := told_any _ _ _ _ W h1 h2
      rw [sameN_iff.2 rfl] at h
      exact h)
    have x1 := txt_same EB
    have x2 := wrap_lo8 c
    have x3 := wrap_lo8 s
    have HEL2 := hid (show 2 + D.length = EB.length by rw [HE.out]; unfold encN; simp; omega)
    have hb : Below wy.heap.size wy wy.drew := (Below.refl _ _).drew
    replace ST := hid (And.intro (ST.out.1.below hb) (And.intro (ST.out.2.1.below hb) (ST.out.2.2.trans (hb.mono ST.out.2.2.size)))); replace U := hid (U.out.keep hb); replace X8 := hid (X8.out.keep hb); replace N8 := hid (N8.out.keep hb)
    clear hb
    refine wp_region_noPanic ?_
    refine wp_region_held_drew (S := fun w' => (w'.cell? ⟨w.heap.size, 0, none⟩ = some (.int .i64 c) ∧ w'.cell? ⟨w.heap.size, 1, none⟩ = some (.int .i64 s) ∧ w'.cell? ⟨w.heap.size, 2, none⟩ = some v3) ∧ (w'.cell? ⟨bx, 0, none⟩ = some (.int .i64 c) ∧ w'.cell? ⟨bx, 1, none⟩ = some (.int .i64 s) ∧ w'.cell? ⟨bx, 2, none⟩ = some (.slice A8 k8 c8)) ∧ (convert 22 9 (.slice A5 EB.length c5)).run Tryd.prog w' = .ok (.string (txt EB)) w') (by kernel_rfl) ⟨ST.out.1.cells, X8.out.cells, text8 U.out⟩ (fun hHeld => ?_)
    refine Take.tk 0 81 hHeld ?_
    refine Take.tk 1 82 hHeld ?_
    refine Take.tk 2 83 hHeld ?_
    try simp only [Act.put, Take.nm]
    refine Take.tk 3 84 hHeld ?_
    refine Take.tk 4 85 hHeld ?_
    refine Take.tk 5 86 hHeld ?_
    try simp only [Act.put, Take.nm]
    refine Take.tk 6 87 hHeld ?_
    refine Take.tk 7 88 hHeld ?_
    refine Take.tk 8 89 hHeld ?_
    try simp only [Act.put, Take.nm]
    refine Take.tk 9 90 hHeld ?_
    refine Take.tk 10 91 hHeld ?_
    refine Take.tk 12 93 hHeld ?_
    try simp only [Act.put, Take.nm]
    refine Take.tk 13 94 hHeld ?_
    try simp only [Act.put, Take.nm]
    refine wpAnyH_ready (rs := [11]) (by kernel_rfl) (by simp) ?_
    refine AllReadyH.cons (o := _) (by rfl) (fun K1 hK => ?_) AllReadyH.nil
    go_simp
    have hown := World.ownsRow_lit (base := wy.drew.heap.size) (e := 5) (size := 1) wy.drew #[.int .u8 (lo8 c), .int .u8 (lo8 s)] 2 (Nat.le_refl _) (by decide) rfl
    have O := hid hown
    have S8 := hid (And.intro ST.out (And.intro U.out (And.intro X8.out N8.out)))
    have hb : Below wy.drew.heap.size wy.drew (wy.drew.alloc (.cells #[.int .u8 (lo8 c), .int .u8 (lo8 s)] 5)) := (Below.refl _ _).alloc (Nat.le_refl _) _
    replace ST := hid (And.intro (ST.out.1.below hb) (And.intro (ST.out.2.1.below hb) (ST.out.2.2.trans (hb.mono ST.out.2.2.size)))); replace U := hid (U.out.keep hb); replace X8 := hid (X8.out.keep hb); replace N8 := hid (N8.out.keep hb)
    have HB := hid hb
    clear hown hb
    refine hK.out _ _ ⟨ST.out.1.cells, X8.out.cells, text8 U.out⟩ (fun h1 => ?_)
    clear hK K1
    try simp only [Act.put, Take.nm]
    refine wpAnyH_ready (rs := [14]) (by kernel_rfl) (by simp) ?_
    refine AllReadyH.cons (o := _) (by rfl) (fun K1 hK => ?_) AllReadyH.nil
    rw [if_pos (by rfl)]
    refine wp_append_row (.tmp 92) (.tmp 94) rfl E0 wy.drew.heap.size _ 2 (cells8 [lo8 c, lo8 s]) rfl O.out v3 D.length (cells8 D) rfl ST.out.1.dat.1 (ones8 _) (by have := HDL.out; unfold maxLen; omega) (by have := HDL.out; omega) HB.out.size EB.length HEL2.out ?_
    intro A9 c9 xe hown hgr hat hb1
    have V := hid (show U8s xe (.slice A9 EB.length c9) EB from U8s.of_own (l := EB) (by rw [← cells8_append, show [lo8 c, lo8 s] ++ D = EB by rw [HE.out]; rfl] at hown; exact hown) HES.out)
    have hb := HB.out.trans hb1
    clear ST U X8 N8
    have ST := hid (And.intro (S8.out.1.1.below hb) (And.intro (S8.out.1.2.1.below hb) (S8.out.1.2.2.trans (hb.mono S8.out.1.2.2.size))))
    have U := hid (S8.out.2.1.keep hb)
    have X8 := hid (S8.out.2.2.1.keep hb)
    have N8 := hid (S8.out.2.2.2.keep hb)
    clear hb hb1 hown hgr hat HB O S8
    refine hK.out _ _ ⟨ST.out.1.cells, X8.out.cells, text8 U.out⟩ (fun h2 => ?_)
    clear hK K1
    try simp only [Act.put, Take.nm]
    refine wpAnyH_ready (rs := [15]) (by kernel_rfl) (by simp) ?_
    refine AllReadyH.cons (o := _) (by rfl) (fun K1 hK => ?_) AllReadyH.nil
    have t9 := text8 V.out
    go_simp
    refine hK.out _ _ ⟨ST.out.1.cells, X8.out.cells, text8 U.out⟩ (fun h3 => ?_)
    clear hK K1
    try simp only [Act.put, Take.nm]
    refine Take.tk 16 97 h3 ?_
    refine Take.tk 17 98 h3 ?_
    refine Take.tk 18 99 h3 ?_
    try simp only [Act.put, Take.nm]
    refine Take.tk 19 100 h3 ?_
    refine Take.tk 20 101 h3 ?_
    refine Take.tk 21 102 h3 ?_
    try simp only [Act.put, Take.nm]
    refine Take.tk 22 103 h3 ?_
    refine Take.tk 23 104 h3 ?_
    try simp only [Act.put, Take.nm]
    refine wpAnyH_ready (rs := [24]) (by kernel_rfl) (by simp) ?_
    refine AllReadyH.cons (o := _) (by rfl) (fun K1 hK => ?_) AllReadyH.nil
    go_simp
    go_at_call 11; refine (CT.out _ _ _ N8.out ST.out.1.no).mono ?_; rintro e xf ⟨rfl, hb⟩; replace ST := hid (And.intro (ST.out.1.below hb) (And.intro (ST.out.2.1.below hb) (ST.out.2.2.trans (hb.mono ST.out.2.2.size)))); replace U := hid (U.out.keep hb); replace X8 := hid (X8.out.keep hb); replace N8 := hid (N8.out.keep hb); clear hb
    refine hK.out _ _ ⟨ST.out.1.cells, X8.out.cells, text8 U.out⟩ (fun h4 => ?_)
    clear hK K1
    try simp only [Act.put, Take.nm]
    refine Take.tk 25 106 h4 ?_
    refine Take.tk 26 107 h4 ?_
    try simp only [Act.put, Take.nm]
    refine wpAnyH_ready (rs := [27]) (by kernel_rfl) (by simp) ?_
    refine AllReadyH.cons (o := _) (by rfl) (fun K1 hK => ?_) AllReadyH.nil
    go_simp
    go_at_call 13; refine (CLV.out _).mono ?_; rintro e xg ⟨rfl, hb⟩; replace ST := hid (And.intro (ST.out.1.below hb) (And.intro (ST.out.2.1.below hb) (ST.out.2.2.trans (hb.mono ST.out.2.2.size)))); replace U := hid (U.out.keep hb); replace X8 := hid (X8.out.keep hb); replace N8 := hid (N8.out.keep hb); clear hb
    refine hK.out _ _ ⟨ST.out.1.cells, X8.out.cells, text8 U.out⟩ (fun h5 => ?_)
    clear hK K1
    try simp only [Act.put, Take.nm]
    refine Take.tk 28 109 h5 ?_
    refine Take.tk 29 6 h5 ?_
    try simp only [Act.put, Take.nm]
    refine wpAnyH_done (by kernel_rfl) ?_ _
    refine NoPanic.normal ?_
    go_wp2
    go_ret
    exact ⟨rfl, ST.out.2.2⟩
end Go.Proofs.YtplolahbjebbaaaDoor.Ntc
