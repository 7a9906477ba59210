/- Part of the proof. -/
import Derived.Test.YtjfmompgkkdliaaGreatDoorG44
import Derived.Test.YtjfmompgkkdliaaGreatDoorG27
import Derived.Test.YtjfmompgkkdliaaGreatDoorG42
import Derived.Test.YtjfmompgkkdliaaGreatDoorG47
import Derived.Test.YtjfmompgkkdliaaGreatDoorG41
set_option maxRecDepth 100000
set_option maxHeartbeats 40000000
namespace Go.Proofs.YtjfmompgkkdliaaGreatDoor
namespace Msg
open Go.RowKit Mem Segm Oct Att Seg PR Opn Upd Ntc Frm
theorem body_small {v:Value} {m:Ms} {W:World} (h:Msgs W v m) (hg:goodM m=true):Small (bodyM m):=by
 obtain ⟨_,_,-,-,-,hu,hn⟩:=h
 have hs:Small m.no.data:=by obtain ⟨-,-,vd,-,hd⟩:=hn;exact hd.2
 unfold bodyM
 rcases good_kind hg with ⟨h1,-⟩ | ⟨h1,h2⟩ | ⟨h1,-⟩ | h1
 ·rw [if_pos h1];exact Opn.encO_small _
 ·rw [if_neg (by omega),if_pos h1];exact (smallU hu h2).1
 ·rw [if_neg (by omega),if_neg (by omega),if_pos h1];exact encN_small hs
 ·rw [if_neg (by omega),if_neg (by omega),if_neg (by omega)];exact small_nil
theorem asked (w:World) (hS:Shp w):Asked w where
 good v m W h hf _:=pgood13 v m W h (fun v W hu=>Upd.ugood_any v m.up W hu (limW_of hf).at8.ln)
 only v m W h hf _:=ponly13 v m W h (lim_only (limW_of hf))
 same v v2 m n W h h2 _ _ _:=psame13 v v2 m n W h h2
 enc v m W h hf hb:=penc13 v m W h (hS.keep hb) (limW_of hf).at8.ln (Nat.le_trans (limW_of hf).g (by decide)) (Nat.le_trans (limW_of hf).h (by decide))
 read v b W h hl hb:=pread_all w hS v b W h (by omega) hb
 lives W hb:=lives_all w hS W hb
 rgood v m W h hf:=rgood13 v m W h (fun v W hu=>Upd.rgood_any v m.up W hu (Nat.le_trans (limW_of hf).at8.bk (by decide)) (limW_of hf).at8.ln (fit_more (limW_of hf).at8.fit (by decide)) (Nat.le_trans (limW_of hf).at8.cm (by decide)))
 rbody v m W h hf hg:=(rbody13 v m W h hg (fun hk v W hu=>by
  have hgu:goodU m.up=true:=by
   rcases good_kind hg with ⟨h1,-⟩ | ⟨-,h2⟩ | ⟨h1,-⟩ | h1
   ·omega
   ·exact h2
   ·omega
   ·omega
  exact Upd.rencode_any v m.up W hu hgu (Nat.le_trans (limW_of hf).g (by decide)) (Nat.le_trans (limW_of hf).h (by decide)) (smallU hu hgu).2)).mono fun e w' ⟨A,c,h1,h2,h3⟩=>⟨A,c,h1,U8s.of_own h2 (body_small h hg),h3⟩
 len _ hf hg:=len_of hf hg
 goodw _ _ _ h _ hg hl:=goodw_of h hg hl
end Msg
end Go.Proofs.YtjfmompgkkdliaaGreatDoor
