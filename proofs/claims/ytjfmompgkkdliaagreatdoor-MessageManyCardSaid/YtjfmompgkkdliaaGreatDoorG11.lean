/- Part of the proof. -/
import Derived.Test.YtjfmompgkkdliaaGreatDoorG02
import Derived.Test.YtjfmompgkkdliaaGreatDoorG04
import Derived.Test.YtjfmompgkkdliaaGreatDoorG01
import Derived.Test.YtjfmompgkkdliaaGreatDoorG09
open Go.Lib (hid)
set_option maxRecDepth 100000
set_option maxHeartbeats 40000000
namespace Go.Proofs.YtjfmompgkkdliaaGreatDoor
namespace Att
open Go.RowKit Mem Oct Nums
def quadsN (l:List Nat) (n:Nat):List Nat:=(List.range n).map fun k=>val ((l.drop (4*k)).take 4)
def quads (l:List Nat):List Nat:=quadsN l (l.length / 4)
theorem quadsN_len (l:List Nat) (n:Nat):(quadsN l n).length=n:=by simp [quadsN]
theorem quadsN_succ (l:List Nat) (n:Nat):quadsN l (n+1)=quadsN l n ++ [val ((l.drop (4*n)).take 4)]:=by
 unfold quadsN
 rw [List.range_succ,List.map_append];rfl
end Att
namespace Att
open Go.RowKit Mem Segm Oct
theorem val345 (k:Int) (n:Nat) (h o:Int) (vp vc:Value) (hp md pr ag ai:Nat) (w:World) (hn:n<4294967296) (hk:k=3∧n=hp∨k=4∧n=md∨k=5∧n=pr):Calls Tryz.prog 126 #[.agg #[.int .i64 h,.int .i64 o,vp,.int .u32 hp,.int .u32 md,.int .u32 pr,.int .u32 ag,.int .u32 ai,vc],.int .i64 k] w (Gives8 (big n 4) w):=by
 have HC:=hid (Box9.new w 29 (.int .i64 h) (.int .i64 o) vp (.int .u32 hp) (.int .u32 md) (.int .u32 pr) (.int .u32 ag) (.int .u32 ai) vc)
 have HB:=hid ((Below.refl _ w).alloc (Nat.le_refl _) (.cells #[.int .i64 h,.int .i64 o,vp,.int .u32 hp,.int .u32 md,.int .u32 pr,.int .u32 ag,.int .u32 ai,vc] 29))
 have CB:=hid (fun W=>big_any n 4 W (by omega) (by omega))
 have wa:IntKind.u64.wrap (n:Int)=(n:Int):=by rw [IntKind.wrap_u64];omega
 obtain ⟨W0,hW0⟩:∃ W0,W0=w.alloc (.cells #[.int .i64 h,.int .i64 o,vp,.int .u32 hp,.int .u32 md,.int .u32 pr,.int .u32 ag,.int .u32 ai,vc] 29):=⟨_,rfl⟩
 rw [← hW0] at HC HB
 obtain ⟨c0,c1,c2,c3,c4,c5,c6,c7,c8⟩:=(HC.out.keep ((Below.refl _ _).alloc (Nat.le_refl _) (.cells #[] 5))).cells
 rw [hW0] at c0 c1 c2 c3 c4 c5 c6 c7 c8
 have HB2:=hid (HB.out.alloc HB.out.size (.cells #[] 5))
 rw [hW0] at HB2
 clear hW0 hn
 rcases hk with ⟨rfl,rfl⟩ | ⟨rfl,rfl⟩ | ⟨rfl,rfl⟩
 all_goals
  go_enter Tryz.func126,Tryz.ntmps126
  go_wp2_with (go_at_call 42;refine (CB.out _).mono ?_;rintro e x ⟨A1,q1,rfl,hu,hb⟩;have HU:=hid hu;have HX:=hid (HB2.out.trans (hb.mono HB2.out.size));have HS:=hid HB2.out.size;clear hu hb c0 c1 c2 c3 c4 c5 c6 c7 c8)
  go_loopw [5,8] (fun v5 v8 wx=>v5=.slice A1 (big _ 4).length q1∧v8=.int .i64 0∧wx=x) (fun _ _ _=>0)
  case atStart=>exact ⟨rfl,rfl,rfl⟩
  case round =>
   obtain ⟨rfl,rfl,rfl⟩:=hrel
   go_wp2
   go_ret
   exact ⟨A1,q1,rfl,own_base HU.out HS.out,HX.out⟩
theorem val3 (h o:Int) (vp vc:Value) (hp md pr ag ai:Nat) (w:World) (hn:hp<4294967296):Calls Tryz.prog 126 #[.agg #[.int .i64 h,.int .i64 o,vp,.int .u32 hp,.int .u32 md,.int .u32 pr,.int .u32 ag,.int .u32 ai,vc],.int .i64 3] w (Gives8 (big hp 4) w) :=
 val345 3 hp h o vp vc hp md pr ag ai w hn (.inl ⟨rfl,rfl⟩)
theorem val4 (h o:Int) (vp vc:Value) (hp md pr ag ai:Nat) (w:World) (hn:md<4294967296):Calls Tryz.prog 126 #[.agg #[.int .i64 h,.int .i64 o,vp,.int .u32 hp,.int .u32 md,.int .u32 pr,.int .u32 ag,.int .u32 ai,vc],.int .i64 4] w (Gives8 (big md 4) w) :=
 val345 4 md h o vp vc hp md pr ag ai w hn (.inr (.inl ⟨rfl,rfl⟩))
theorem val5 (h o:Int) (vp vc:Value) (hp md pr ag ai:Nat) (w:World) (hn:pr<4294967296):Calls Tryz.prog 126 #[.agg #[.int .i64 h,.int .i64 o,vp,.int .u32 hp,.int .u32 md,.int .u32 pr,.int .u32 ag,.int .u32 ai,vc],.int .i64 5] w (Gives8 (big pr 4) w) :=
 val345 5 pr h o vp vc hp md pr ag ai w hn (.inr (.inr ⟨rfl,rfl⟩))
theorem val1 (h o:Int) (vp vc:Value) (hp md pr ag ai:Nat) (w:World) (h0:0≤o) (h1:o≤255):Calls Tryz.prog 126 #[.agg #[.int .i64 h,.int .i64 o,vp,.int .u32 hp,.int .u32 md,.int .u32 pr,.int .u32 ag,.int .u32 ai,vc],.int .i64 1] w (Gives8 [o.toNat] w):=by
 obtain ⟨i0,E0⟩:=elem8
 have HC:=hid (Box9.new w 29 (.int .i64 h) (.int .i64 o) vp (.int .u32 hp) (.int .u32 md) (.int .u32 pr) (.int .u32 ag) (.int .u32 ai) vc)
 have HB:=hid ((Below.refl _ w).alloc (Nat.le_refl _) (.cells #[.int .i64 h,.int .i64 o,vp,.int .u32 hp,.int .u32 md,.int .u32 pr,.int .u32 ag,.int .u32 ai,vc] 29))
 obtain ⟨W0,hW0⟩:∃ W0,W0=w.alloc (.cells #[.int .i64 h,.int .i64 o,vp,.int .u32 hp,.int .u32 md,.int .u32 pr,.int .u32 ag,.int .u32 ai,vc] 29):=⟨_,rfl⟩
 rw [← hW0] at HC HB
 have hs1:W0.heap.size=w.heap.size+1:=by rw [hW0];simp
 obtain ⟨W1,hW1⟩:∃ W1,W1=W0.alloc (.cells #[] 5):=⟨_,rfl⟩
 have HB2:=hid (HB.out.alloc HB.out.size (.cells #[] 5))
 have HC1:=hid (HC.out.keep ((Below.refl _ _).alloc (Nat.le_refl _) (.cells #[] 5)))
 have HO:=hid (show (W0.alloc (.cells #[] 5)).ownsRow w.heap.size 5 1 (.slice (some ⟨w.heap.size+1,0,none⟩) 0 0) 0 (cells8 []) from own_blk (by omega) (by rw [← hs1];exact heap_alloc_new _ _))
 rw [← hW1] at HB2 HC1 HO
 obtain ⟨m,rfl⟩:=Int.eq_ofNat_of_zero_le h0
 have wa:IntKind.u8.wrap ((m:Nat):Int)=((m:Nat):Int):=by rw [IntKind.wrap_u8];omega
 obtain ⟨c0,c1,c2,c3,c4,c5,c6,c7,c8⟩:=HC1.out.cells
 have HR:=hid (show Row (W1.alloc (.cells #[.int .u8 m] 5)) 1 (.slice (some ⟨w.heap.size+1+1,0,none⟩) 1 1) 1 (cells8 [m]) by
  have h:=Row.one W1 (.int .u8 m) 5
  rw [show W1.heap.size=w.heap.size+1+1 by rw [hW1];simp [hs1]] at h
  exact h)
 rw [hW1,hW0] at c0 c1 c2 c3 c4 c5 c6 c7 c8 HO HB2 HR
 clear hW0 hW1 h0 h1 hs1
 go_enter Tryz.func126,Tryz.ntmps126
 go_wp2_with (at_builtin;refine wpList_append_row rfl (.tmp 12) (.tmp 16) rfl E0 w.heap.size _ 0 _ rfl (HO.out.alloc _) _ 1 (cells8 [m]) rfl HR.out (ones8 _) (by unfold maxLen;omega) (by omega) (HB2.out.alloc HB2.out.size _).size 1 rfl ?_;intro A1 q1 x hown1 hg1 hat1 hb1;have HU:=hid hown1;have HX:=hid ((HB2.out.alloc HB2.out.size _).trans hb1);clear hown1 hg1 hat1 hb1 c0 c1 c2 c3 c4 c5 c6 c7 c8)
 go_loopw [5,8] (fun v5 v8 wx=>v5=.slice A1 1 q1∧v8=.int .i64 0∧wx=x) (fun _ _ _=>0)
 case atStart=>exact ⟨rfl,rfl,rfl⟩
 case round =>
  obtain ⟨rfl,rfl,rfl⟩:=hrel
  go_wp2
  go_ret
  exact ⟨A1,q1,rfl,HU.out,HX.out⟩
theorem val6 (h o:Int) (vp vc:Value) (hp md pr ag ai:Nat) (w:World):Calls Tryz.prog 126 #[.agg #[.int .i64 h,.int .i64 o,vp,.int .u32 hp,.int .u32 md,.int .u32 pr,.int .u32 ag,.int .u32 ai,vc],.int .i64 6] w (Gives8 [] w):=by
 have HB:=hid ((Below.refl _ w).alloc (Nat.le_refl _) (.cells #[.int .i64 h,.int .i64 o,vp,.int .u32 hp,.int .u32 md,.int .u32 pr,.int .u32 ag,.int .u32 ai,vc] 29))
 obtain ⟨W0,hW0⟩:∃ W0,W0=w.alloc (.cells #[.int .i64 h,.int .i64 o,vp,.int .u32 hp,.int .u32 md,.int .u32 pr,.int .u32 ag,.int .u32 ai,vc] 29):=⟨_,rfl⟩
 rw [← hW0] at HB
 have hs1:W0.heap.size=w.heap.size+1:=by rw [hW0];simp
 obtain ⟨W1,hW1⟩:∃ W1,W1=W0.alloc (.cells #[] 5):=⟨_,rfl⟩
 have HB2:=hid (HB.out.alloc HB.out.size (.cells #[] 5))
 have HO:=hid (show (W0.alloc (.cells #[] 5)).ownsRow w.heap.size 5 1 (.slice (some ⟨w.heap.size+1,0,none⟩) 0 0) 0 (cells8 []) from own_blk (by omega) (by rw [← hs1];exact heap_alloc_new _ _))
 rw [← hW1] at HB2 HO
 rw [hW1,hW0] at HO HB2
 clear hW0 hW1 hs1
 go_enter Tryz.func126,Tryz.ntmps126
 go_wp2
 go_loopw [5,8] (fun v5 v8 wx=>v5=.slice (some ⟨w.heap.size+1,0,none⟩) 0 0∧v8=.int .i64 0∧Hid (wx.ownsRow w.heap.size 5 1 (.slice (some ⟨w.heap.size+1,0,none⟩) 0 0) 0 (cells8 []))∧Hid (Below w.heap.size w wx)) (fun _ _ _=>0)
 case atStart=>exact ⟨rfl,rfl,HO,HB2⟩
 case round =>
  obtain ⟨rfl,rfl,H1,H2⟩:=hrel
  go_wp2
  go_ret
  exact ⟨_,_,rfl,H1.out,H2.out⟩
end Att
end Go.Proofs.YtjfmompgkkdliaaGreatDoor
