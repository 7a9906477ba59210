/- Part of the proof. -/
import Derived.Test.YtjfmompgkkdliaaGreatDoorH42
import Derived.Test.YtjfmompgkkdliaaGreatDoorH46
import Derived.Test.YtjfmompgkkdliaaGreatDoorH39
import Derived.Test.YtjfmompgkkdliaaGreatDoorH04
set_option maxRecDepth 100000
set_option maxHeartbeats 40000000
namespace Go.Proofs.YtjfmompgkkdliaaGreatDoor
namespace Msg
open Go.RowKit Mem Segm Oct Att PR Opn Upd Ntc Frm
theorem rdec_all (k:Int) (v:Value) (b:List Nat) (W:World) (hv:U8s W v b) (hl:b.length≤1600):Calls Tryz.prog 21 #[.int .i64 k,v] W (DecG k b v W) :=
 rdec13 k v b W hv (by omega) (fun _ W2 h=>(Opn.decode_r v b W2 h hl).mono fun e w' ⟨vn,h1,h2,h3⟩=>⟨vn,h1,out_ok hv.2,h2,h3⟩) (fun _ W2 h=>Upd.rdec_any v b W2 h hl)
theorem rread_all (v:Value) (b:List Nat) (W:World) (hv:U8s W v b) (hl:b.length≤1600):Calls Tryz.prog 23 #[v] W (ReadF (readM b) W) :=
 rread13 v b W hv hl (fun k v b W h h2 _=>rdec_all k v b W h h2)
end Msg
end Go.Proofs.YtjfmompgkkdliaaGreatDoor
