/- NoticeNames' walk. -/
import Derived.Test.YtplolahbjebbaaaDoorNtcLives
namespace Go.Proofs.YtplolahbjebbaaaDoor.Ntc
open Go.RowKit Mem Oct Att Pfx
open Go.Lib (hid)

set_option maxRecDepth 100000 in
set_option maxHeartbeats 4000000 in
theorem names_walk (v : Value) (n : No) (s : Int) (w : World) (h : Note w v n) (hs : (Lit.int .i64 s).wf = true) (hT : Lib.TabIs Tryd.prog w "internal/strconv.uint64pow10" .u64 Lib.pow10Tab) :
    Calls Tryd.prog 5 #[v, .int .i64 s] w (Tells (.bool true) w) := by
  have CP := hid (fun W (hb : Below w.heap.size w W) => name_any v n W (h.keep hb) (.inr (tab_below hT hb)))
  have CR := hid (fun W (hb : Below w.heap.size w W) => rname_any v n W (h.keep hb))
  have CC := hid (fun W => close_any s W)
  have CL := hid lives11_any
  have CT := hid (fun W => show Calls Tryd.prog 11 #[.agg #[.int .i64 6, .int .i64 s, .slice none 0 0], .agg #[.int .i64 6, .int .i64 s, .slice none 0 0]] W (Tells (.bool true) W) from by
    have HN : Note W (.agg #[.int .i64 6, .int .i64 s, .slice none 0 0]) ⟨6, s, []⟩ := ⟨show (Lit.int .i64 6).wf = true by decide, hs, _, rfl, U8s.nil W⟩
    have h := told_any _ _ _ _ W HN HN
    rw [sameN_iff.2 rfl] at h
    exact h)
  generalize strOf (nameB n.code n.sub) = S at CP CR
  have y : (S.toList == S.toList) = true := by simp
  obtain ⟨-, -, vd, rfl, -⟩ := h
  generalize n.code = c0 at CP CR ⊢
  generalize n.sub = c1 at CP CR ⊢
  have HX := hid (Box3.new w 24 (.int .i64 c0) (.int .i64 c1) vd)
  have S0 := hid (And.intro HX.out (ntc_box w (.int .i64 c0) (.int .i64 c1) vd))
  obtain ⟨q0, q1, q2⟩ := HX.out.cells
  clear hs hT
  go_enter Tryd.func5, Tryd.ntmps5
  go_wp2
  clear q0 q1 q2
  have S1 := hid (And.intro (S0.out.1.keep (Below.refl _ _).drew) (S0.out.2.trans ((Below.refl _ _).drew.mono S0.out.2.size)))
  obtain ⟨q0, q1, q2⟩ := S1.out.1.cells
  go_region_held3 (fun w' => w'.cell? ⟨w.heap.size, 0, none⟩ = some (.int .i64 c0) ∧ w'.cell? ⟨w.heap.size, 1, none⟩ = some (.int .i64 c1) ∧ w'.cell? ⟨w.heap.size, 2, none⟩ = some vd) (exact ⟨by assumption, by assumption, by assumption⟩) (first
    | (have h := S1.out; go_at_call 15; refine (CP.out _ h.2).mono ?_; rintro e z ⟨rfl, hb⟩; have S2 := hid (And.intro (h.1.keep hb) (h.2.trans (hb.mono h.2.size))); clear h hb S1 q0 q1 q2; obtain ⟨q0, q1, q2⟩ := S2.out.1.cells)
    | (have h := S2.out; go_at_call 16; refine (CR.out _ h.2).mono ?_; rintro e z ⟨rfl, hb⟩; have S3 := hid (And.intro (h.1.keep hb) (h.2.trans (hb.mono h.2.size))); clear h hb S2 q0 q1 q2; obtain ⟨q0, q1, q2⟩ := S3.out.1.cells)
    | (have h := S3.out; go_at_call 17; refine (CC.out _).mono ?_; rintro e z ⟨rfl, hb⟩; have S4 := hid (And.intro (h.1.keep hb) (h.2.trans (hb.mono h.2.size))); clear h hb S3 q0 q1 q2; obtain ⟨q0, q1, q2⟩ := S4.out.1.cells)
    | (have h := S4.out; go_at_call 11; refine (CT.out _).mono ?_; rintro e z ⟨rfl, hb⟩; have S5 := hid (And.intro (h.1.keep hb) (h.2.trans (hb.mono h.2.size))); clear h hb S4 q0 q1 q2; obtain ⟨q0, q1, q2⟩ := S5.out.1.cells)
    | (have h := S5.out; go_at_call 13; refine (CL.out _).mono ?_; rintro e z ⟨rfl, hb⟩; have S6 := hid (And.intro (h.1.keep hb) (h.2.trans (hb.mono h.2.size))); clear h hb S5 q0 q1 q2; obtain ⟨q0, q1, q2⟩ := S6.out.1.cells))
  go_wp2
  go_ret
  exact ⟨rfl, S6.out.2⟩
end Go.Proofs.YtplolahbjebbaaaDoor.Ntc
