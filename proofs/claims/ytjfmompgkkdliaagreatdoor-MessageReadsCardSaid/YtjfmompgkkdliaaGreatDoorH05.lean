/- Part of the proof. -/
import Derived.Laws.BitsAllLaws
import Derived.Test.YtjfmompgkkdliaaGreatDoorProg
import Derived.WalkKit
import Derived.WalkLawsBesides
import Derived.WalkSpells
import Derived.BigQuiet
import Derived.Lib.QuietBelow
import Derived.Lib.Hide
open Go.Lib (hid)
set_option maxRecDepth 100000
set_option maxHeartbeats 40000000
namespace Go.Proofs.YtjfmompgkkdliaaGreatDoor
namespace Pfx
def bitN (a i:Nat):Nat:=a / 2 ^ (31 - i) % 2
def cutN (a n:Nat):Nat:=a / 2 ^ (32 - n)*2 ^ (32 - n)
def maskN (n:Nat):Nat:=4294967296 - 2 ^ (32 - n)
def clampN (n:Int):Nat:=if n<0 then 0 else if 32<n then 32 else n.toNat
theorem clampN_in (n:Nat) (h:n≤32):clampN (n:Int)=n:=by unfold clampN;rw [if_neg (by omega),if_neg (by omega)];omega
theorem pow_le (k:Nat) (h:k≤32):2 ^ k≤4294967296:=by
 have:=Nat.pow_le_pow_right (show 0<2 by decide) h
 simpa using this
theorem pow_pos (k:Nat):0<2 ^ k:=Nat.pow_pos (by decide)
theorem maskN_lt (n:Nat):maskN n<4294967296:=by unfold maskN;have:=pow_pos (32 - n);omega
theorem cutN_le (a n:Nat):cutN a n≤a:=Nat.div_mul_le_self _ _
theorem bitN_lt (a i:Nat):bitN a i<2:=Nat.mod_lt _ (by decide)
theorem mask_shift (n:Nat) (h:n≤32):(4294967295*2 ^ (32 - n) % 4294967296:Int)=(maskN n:Int):=by
 have hp:=pow_le (32 - n) (by omega)
 have h0:=pow_pos (32 - n)
 unfold maskN
 have e2:(4294967295*2 ^ (32 - n):Int)=(4294967296 - (2 ^ (32 - n):Nat))+4294967296*(((2 ^ (32 - n):Nat):Int) - 1):=by push_cast;omega
 rw [e2,Int.add_mul_emod_self_left]
 rw [Int.emod_eq_of_lt (by omega) (by omega)]
 omega
theorem testBit_mask (n i : Nat) (h : n ≤ 32) : (maskN n).testBit i = (decide (i < 32) && decide (32 - n ≤ i)) := by
  unfold maskN
  have h0:=pow_pos (32 - n)
  have e : 4294967296 - 2 ^ (32 - n) = 2 ^ 32 - ((2 ^ (32 - n) - 1) + 1) := by
    have:(2:Nat) ^ 32=4294967296:=by decide
    omega
  rw [e, Nat.testBit_two_pow_sub_succ (by have := pow_le (32 - n) (by omega); have : (2 : Nat) ^ 32 = 4294967296 := by decide
                                          omega),Nat.testBit_two_pow_sub_one]
  congr 1
  rw [← decide_not]
  exact decide_eq_decide.2 (by omega)
theorem testBit_cut (a n i:Nat):(cutN a n).testBit i=(decide (32 - n≤i) && a.testBit i):=by
 unfold cutN
 rw [Nat.testBit_mul_two_pow]
 by_cases h:32 - n≤i
 ·simp [h,Nat.testBit_div_two_pow,Nat.sub_add_cancel h]
 ·simp [h]
theorem testBit_lt {a i:Nat} (h:a<4294967296) (hi:a.testBit i=true):i<32:=by
 rcases Nat.lt_or_ge i 32 with h1 | h1
 ·exact h1
 ·rw [Nat.testBit_lt_two_pow (Nat.lt_of_lt_of_le (show a<2 ^ 32 from h) (Nat.pow_le_pow_right (by decide) h1))] at hi;cases hi
theorem and_mask (a n:Nat) (ha:a<4294967296) (hn:n≤32):a &&& maskN n=cutN a n:=by
 apply Nat.eq_of_testBit_eq
 intro i
 rw [Nat.testBit_and,testBit_mask n i hn,testBit_cut]
 by_cases hi:i<32
 ·simp [hi,Bool.and_comm]
 ·have:a.testBit i=false:=by
   cases h:a.testBit i
   ·rfl
   ·exact absurd (testBit_lt ha h) hi
  simp [this]
theorem andNot_mask (a n:Nat) (hn:n≤32):a &&& (4294967295 - maskN n)=a % 2 ^ (32 - n):=by
 have e:4294967295 - maskN n=2 ^ (32 - n) - 1:=by
  unfold maskN
  have:=pow_le (32 - n) (by omega)
  have:=pow_pos (32 - n)
  omega
 rw [e,Nat.and_two_pow_sub_one_eq_mod]
theorem bits_and_mask (a n:Nat) (ha:a<4294967296) (hn:n≤32):bits .and .u32 (a:Int) (maskN n:Int)=(cutN a n:Int):=by
 rw [u32_and_nat a (maskN n) ha (maskN_lt n),and_mask a n ha hn]
theorem bits_andNot_mask (a n:Nat) (ha:a<4294967296) (hn:n≤32):bits .andNot .u32 (a:Int) (maskN n:Int)=((a % 2 ^ (32 - n):Nat):Int):=by
 rw [u32_andNot_nat a (maskN n) ha (maskN_lt n),andNot_mask a n hn]
theorem cut_iff_mod (a n:Nat):cutN a n=a ↔ a % 2 ^ (32 - n)=0:=by
 unfold cutN
 have:=Nat.div_add_mod a (2 ^ (32 - n))
 rw [Nat.mul_comm] at this
 omega
def outN (a n k:Nat):Nat:=if k≤n then a / 2 ^ (32 - k) else a / 2 ^ (32 - n)*2 ^ (k - n)
theorem outN_0 (a n:Nat) (h:a<4294967296):outN a n 0=0:=by unfold outN;rw [if_pos (by omega)];exact Nat.div_eq_of_lt (by simpa using h)
theorem outN_32 (a n:Nat) (h:n≤32):outN a n 32=cutN a n:=by
 unfold outN cutN
 split
 ·have:n=32:=by omega
  subst this;simp
 ·rfl
theorem outN_hit (a n k:Nat) (hk:k<32) (hkn:k<n):outN a n (k+1)=outN a n k*2+bitN a k:=by
 unfold outN bitN
 rw [if_pos (by omega),if_pos (by omega)]
 have e:32 - k=(32 - (k+1))+1:=by omega
 rw [e,Nat.pow_succ,← Nat.div_div_eq_div_mul]
 have:31 - k=32 - (k+1):=by omega
 rw [this]
 omega
theorem outN_miss (a n k:Nat) (hkn:n≤k):outN a n (k+1)=outN a n k*2:=by
 unfold outN
 rw [if_neg (by omega)]
 have e:k+1 - n=(k - n)+1:=by omega
 split
 ·have:k=n:=by omega
  subst this
  simp
 ·rw [e,Nat.pow_succ,Nat.mul_assoc]
theorem outN_lt (a n k:Nat) (hk:k≤32):outN a n k*2 ^ (32 - k)≤a:=by
 unfold outN
 split
 ·exact Nat.div_mul_le_self _ _
 ·rw [Nat.mul_assoc,← Nat.pow_add,show k - n+(32 - k)=32 - n by omega];exact Nat.div_mul_le_self _ _
theorem outN_room (a n k:Nat) (h:a<4294967296) (hk:k<32):outN a n k*2+1<4294967296:=by
 have h1:=outN_lt a n k (by omega)
 have e:32 - k=(31 - k)+1:=by omega
 rw [e,Nat.pow_succ] at h1
 have h2:=pow_pos (31 - k)
 have h3:outN a n k*2*1≤outN a n k*2*2 ^ (31 - k):=Nat.mul_le_mul_left _ h2
 have h4:outN a n k*2*2 ^ (31 - k)≤a:=by rw [Nat.mul_assoc,Nat.mul_comm 2];exact h1
 omega
theorem div_step (a j:Nat):a / 2 ^ j / 2=a / 2 ^ (j+1):=by rw [Nat.pow_succ,Nat.div_div_eq_div_mul]
end Pfx
namespace Pfx
open Go.RowKit Go.Sort
theorem same_below {f:FuncId} {args:Array Value} {v:Value} (c:∀ w,Calls Tryz.prog f args w fun e w'=>e=.returned v∧w=w') (w:World) :
  Calls Tryz.prog f args w fun e w'=>e=.returned v∧Below w.heap.size w w' :=
 (c w).mono fun _ _ ⟨he,hw⟩=>⟨he,hw ▸ Below.refl _ _⟩
theorem inRegion {f:FuncId} {args:Array Value} {v:Value} (c:∀ w,Calls Tryz.prog f args w fun e w'=>e=.returned v∧Below w.heap.size w w') (w:World) :
  ∀ d os,Calls Tryz.prog f args (grow (redrawn w d) os) fun e w''=>e=.returned v∧∃ p:Regrown,w''=grow (redrawn w p.d) p.os :=
 fun _ _=>Calls.regrown_of (c _)
theorem cells_two (w:World) (x y:Value) (t:TypeId):(w.alloc (.cells #[x,y] t)).cell? ⟨w.heap.size,0,none⟩=some x∧(w.alloc (.cells #[x,y] t)).cell? ⟨w.heap.size,1,none⟩=some y:=by
 constructor <;> simp [go_sem]
theorem below_new (w:World) (o:Obj):Below w.heap.size w (w.alloc o):=(Below.refl _ _).alloc (Nat.le_refl _) _
theorem Below.tr {w a b:World} (h:Below w.heap.size w a) (k:Below a.heap.size a b):Below w.heap.size w b:=Go.RowKit.Below.trans h (k.mono h.size)
theorem ret_bool {a b:Bool} (h:a=b):Ending.returned (.bool a)=.returned (.bool b):=by rw [h]
def fitsB (n:Int):Bool:=decide (0≤n∧n≤32)
theorem fitsB_yes {n:Int} (h0:0≤n) (h1:n≤32):fitsB n=true:=decide_eq_true ⟨h0,h1⟩
theorem fitsB_no {n:Int} (h:n<0∨32<n):fitsB n=false:=decide_eq_false (by omega)
def goodB (a:Nat) (n:Int):Bool:=fitsB n && decide (cutN a n.toNat=a)
theorem fits_any (n:Int) (w:World):Calls Tryz.prog 148 #[.int .i64 n] w fun e w'=>e=.returned (.bool (fitsB n))∧w=w':=by
 by_cases h0:0≤n
 ·by_cases h1:n≤32
  ·rw [fitsB_yes h0 h1]
   go_enter Tryz.func148,Tryz.ntmps148
   go_wp2
   go_ret
   exact ⟨by simp,rfl⟩
  ·rw [fitsB_no (by omega)]
   go_enter Tryz.func148,Tryz.ntmps148
   go_wp2
   go_ret
   exact ⟨by simp,rfl⟩
 ·rw [fitsB_no (by omega)]
  go_enter Tryz.func148,Tryz.ntmps148
  go_wp2
  go_ret
  exact ⟨by simp,rfl⟩
theorem ret_u32 {a b:Int} (h:a=b):Ending.returned (.int .u32 a)=.returned (.int .u32 b):=by rw [h]
theorem ret_i64 {a b:Int} (h:a=b):Ending.returned (.int .i64 a)=.returned (.int .i64 b):=by rw [h]
theorem mask_any (n:Int) (w:World):Calls Tryz.prog 149 #[.int .i64 n] w fun e w'=>e=.returned (.int .u32 (maskN (clampN n):Int))∧w=w':=by
 by_cases h0:n<0
 ·go_enter Tryz.func149,Tryz.ntmps149
  go_wp2
  go_ret
  exact ⟨ret_u32 (by unfold clampN;rw [if_pos h0];rfl),rfl⟩
 ·by_cases h1:32<n
  ·go_enter Tryz.func149,Tryz.ntmps149
   go_wp2
   go_ret
   exact ⟨ret_u32 (by unfold clampN;rw [if_neg (by omega),if_pos h1];rfl),rfl⟩
  ·obtain ⟨k,rfl⟩:=Int.eq_ofNat_of_zero_le (by omega:0≤n)
   go_enter Tryz.func149,Tryz.ntmps149
   go_wp2
   go_ret
   exact ⟨ret_u32 (by rw [clampN_in k (by omega)];exact mask_shift k (by omega)),rfl⟩
theorem mask_in (n:Nat) (h:n≤32) (w:World):Calls Tryz.prog 149 #[.int .i64 n] w fun e w'=>e=.returned (.int .u32 (maskN n:Int))∧w=w':=by
 have:=mask_any n w
 rwa [clampN_in n h] at this
theorem cut_exact (a n:Nat) (ha:a<4294967296) (hn:n≤32) (w:World) :
  Calls Tryz.prog 157 #[.int .u32 a,.int .i64 n] w fun e w'=>e=.returned (.agg #[.int .u32 (cutN a n:Int),.int .i64 n])∧w.alloc (.cells #[.int .u32 (cutN a n:Int),.int .i64 n] 67)=w':=by
 have hb:=bits_and_mask a n ha hn
 go_enter Tryz.func157,Tryz.ntmps157
 go_wp2_with (go_at_call 149;refine (mask_in _ hn _).mono ?_;rintro e w' ⟨rfl,rfl⟩)
 refine bodyPost_ret (v:=.agg #[.int .u32 (cutN a n:Int),.int .i64 n]) (by simp [results,Tryz.results157,go_sem]) rfl ⟨rfl,rfl⟩
theorem refBit_in (a i:Nat) (ha:a<4294967296) (hi:i<32) (w:World) :
  Calls Tryz.prog 164 #[.int .u32 a,.int .i64 i] w fun e w'=>e=.returned (.int .i64 (bitN a i:Int))∧w=w':=by
 go_enter Tryz.func164,Tryz.ntmps164
 go_wp2
 go_loop [0,5] (fun x k=>∃ j:Nat,i+j≤31∧k=.int .i64 (31 - j:Int)∧x=.int .u32 ((a / 2 ^ j:Nat):Int)) (fun _ k=>(intOf k).toNat)
 case atStart=>exact ⟨0,by omega,rfl,by simp⟩
 case round =>
  obtain ⟨j,hj,rfl,rfl⟩:=hrel
  have hlt:a / 2 ^ j<4294967296:=Nat.lt_of_le_of_lt (Nat.div_le_self _ _) ha
  have hs:=hid (div_step a j)
  by_cases hm:i+j<31
  ·generalize hz:a / 2 ^ j=z at hs hlt
   have HZ:=hid hz
   clear hz
   go_wp2
   go_round
   case rel=>exact ⟨j+1,by omega,by congr 1;omega,by rw [← hs.out];simp⟩
   case measure=>simp [intOf];omega
  ·have hj2:j=31 - i:=by omega
   generalize hz:a / 2 ^ j=z at hs hlt
   have HZ:=hid hz
   have HJ:=hid hj2
   clear hz hj2
   go_wp2
   go_ret
   exact ⟨ret_i64 (by unfold bitN;rw [← HJ.out,HZ.out];omega),rfl⟩
theorem refCut_in (a n : Nat) (ha : a < 4294967296) (hn : n ≤ 32) (w : World) :
    Calls Tryz.prog 140 #[.int .u32 a,.int .i64 n] w fun e w'=>e=.returned (.int .u32 (cutN a n:Int))∧w=w':=by
  go_enter Tryz.func140,Tryz.ntmps140
  go_wp2
  go_loop [5,6] (fun x i=>∃ k:Nat,k≤32∧i=.int .i64 k∧x=.int .u32 (outN a n k:Int)) (fun _ i=>32 - (intOf i).toNat)
  case atStart=>exact ⟨0,by omega,rfl,by rw [outN_0 a n ha];rfl⟩
  case round =>
    obtain ⟨k,hk,rfl,rfl⟩:=hrel
    by_cases hlt:k<32
    · have hroom := outN_room a n k ha hlt
      have hbl:=bitN_lt a k
      by_cases hkn:k<n
      · have hs := hid (outN_hit a n k hlt hkn)
        by_cases hb:bitN a k=1
        · have hb2 : ((bitN a k : Int) == 1) = true := by rw [hb]; rfl
          have HB:=hid hb
          clear hb
          go_wp2_with (go_at_call 164;refine (refBit_in _ _ ha hlt _).mono ?_;rintro e w' ⟨rfl,rfl⟩)
          go_round
          case rel=>exact ⟨k+1,by omega,by go_num,by rw [hs.out,HB.out];go_num⟩
          case measure=>simp [intOf];omega
        · have hb2 : ((bitN a k : Int) == 1) = false := by have : bitN a k = 0 := by omega
                                                           rw [this];rfl
          have HB:Hid (bitN a k=0):=hid (by omega)
          clear hb
          go_wp2_with (go_at_call 164;refine (refBit_in _ _ ha hlt _).mono ?_;rintro e w' ⟨rfl,rfl⟩)
          go_round
          case rel=>exact ⟨k+1,by omega,by go_num,by rw [hs.out,HB.out,Nat.add_zero];go_num⟩
          case measure=>simp [intOf];omega
      · have hs := hid (outN_miss a n k (by omega))
        go_wp2_with (go_at_call 164;refine (refBit_in _ _ ha hlt _).mono ?_;rintro e w' ⟨rfl,rfl⟩)
        go_round
        case rel=>exact ⟨k+1,by omega,by go_num,by rw [hs.out];go_num⟩
        case measure=>simp [intOf];omega
    · have hk2 : k = 32 := by omega
      subst hk2
      go_wp2
      go_ret
      exact ⟨ret_u32 (by rw [outN_32 a n hn]),rfl⟩
end Pfx
namespace Pfx
open Go.RowKit Go.Sort
theorem goodB_no {a:Nat} {n:Int} (h:fitsB n=false):goodB a n=false:=by unfold goodB;rw [h];rfl
theorem goodB_in {a k:Nat} (hk:k≤32):goodB a (k:Int)=decide (cutN a k=a):=by
 unfold goodB;rw [fitsB_yes (by omega) (by omega)];rfl
theorem goodB_mod {a k:Nat} (hk:k≤32):((a:Int) % 2 ^ (32 - k) == 0)=goodB a (k:Int):=by
 rw [goodB_in hk,Bool.eq_iff_iff,beq_iff_eq,decide_eq_true_iff,cut_iff_mod]
 have e:((a:Int) % 2 ^ (32 - k))=((a % 2 ^ (32 - k):Nat):Int):=by push_cast;rfl
 rw [e];omega
theorem goodB_len {a:Nat} {n:Int} (h:goodB a n=true):0≤n∧n≤32:=by
 unfold goodB at h;simp only [Bool.and_eq_true] at h;exact of_decide_eq_true h.1
theorem good_any (a:Nat) (n:Int) (ha:a<4294967296) (w:World) :
  Calls Tryz.prog 110 #[.agg #[.int .u32 a,.int .i64 n]] w fun e w'=>e=.returned (.bool (goodB a n))∧Below w.heap.size w w':=by
 cases hf:fitsB n
 ·rw [goodB_no hf]
  have hb:=below_new w (.cells #[.int .u32 (a:Int),.int .i64 n] 67)
  obtain ⟨c0,c1⟩:=cells_two w (.int .u32 (a:Int)) (.int .i64 n) 67
  go_enter Tryz.func110,Tryz.ntmps110
  go_wp2_with fail
  generalize w.alloc (.cells #[.int .u32 (a:Int),.int .i64 n] 67)=W at hb c0 c1 ⊢
  have k0:=cell_regrown c0
  have k1:=cell_regrown c1
  have cF:=inRegion (same_below fun w=>hf ▸ fits_any n w) W
  refine wp_region_quiet_below (by kernel_rfl) (by kernel_rfl) ?_
  repeat (first | go_big_quiet_step (exact cF _ _) | quiet_step (exact cF _ _))
  refine wpQuiet_nil ?_
  intro _ hw'
  obtain ⟨⟨dq,osq⟩,hw''⟩:=hw'
  subst hw''
  go_wp2_with fail
  go_ret
  exact ⟨rfl,Below.tr hb (below_regrown W dq osq)⟩
 ·have hn:0≤n∧n≤32:=of_decide_eq_true hf
  obtain ⟨k,rfl⟩:=Int.eq_ofNat_of_zero_le hn.1
  have hk:k≤32:=by omega
  have hm:=bits_andNot_mask a k ha hk
  have hg:=hid (goodB_mod (a:=a) hk)
  have hb:=below_new w (.cells #[.int .u32 (a:Int),.int .i64 k] 67)
  obtain ⟨c0,c1⟩:=cells_two w (.int .u32 (a:Int)) (.int .i64 k) 67
  go_enter Tryz.func110,Tryz.ntmps110
  go_wp2_with fail
  generalize w.alloc (.cells #[.int .u32 (a:Int),.int .i64 k] 67)=W at hb c0 c1 ⊢
  have k0:=cell_regrown c0
  have k1:=cell_regrown c1
  have cF:=inRegion (same_below fun w=>hf ▸ fits_any k w) W
  have cM:=inRegion (same_below (mask_in k hk)) W
  refine wp_region_quiet_below (by kernel_rfl) (by kernel_rfl) ?_
  repeat (first | go_big_quiet_step (first | exact cF _ _ | exact cM _ _) | quiet_step (first | exact cF _ _ | exact cM _ _))
  refine wpQuiet_nil ?_
  intro _ hw'
  obtain ⟨⟨dq,osq⟩,hw''⟩:=hw'
  subst hw''
  go_wp2_with fail
  go_ret
  exact ⟨ret_bool hg.out,Below.tr hb (below_regrown W dq osq)⟩
theorem refGood_any (a:Nat) (n:Int) (ha:a<4294967296) (w:World) :
  Calls Tryz.prog 119 #[.agg #[.int .u32 a,.int .i64 n]] w fun e w'=>e=.returned (.bool (goodB a n))∧Below w.heap.size w w':=by
 have hb:=below_new w (.cells #[.int .u32 (a:Int),.int .i64 n] 67)
 obtain ⟨c0,c1⟩:=cells_two w (.int .u32 (a:Int)) (.int .i64 n) 67
 by_cases h0:0≤n
 ·by_cases h1:n≤32
  ·obtain ⟨k,rfl⟩:=Int.eq_ofNat_of_zero_le h0
   have hk:k≤32:=by omega
   have hg:((cutN a k:Int) == (a:Int))=goodB a (k:Int):=by
    rw [goodB_in hk,Bool.eq_iff_iff,beq_iff_eq,decide_eq_true_iff];omega
   have HG:=hid hg
   clear hg
   go_enter Tryz.func119,Tryz.ntmps119
   go_wp2_with fail
   generalize w.alloc (.cells #[.int .u32 (a:Int),.int .i64 k] 67)=W at hb c0 c1 ⊢
   have k0:=cell_regrown c0
   have k1:=cell_regrown c1
   have cC:=inRegion (same_below (refCut_in a k ha hk)) W
   refine wp_region_quiet_below (by kernel_rfl) (by kernel_rfl) ?_
   repeat (first | go_big_quiet_step (exact cC _ _) | quiet_step (exact cC _ _))
   refine wpQuiet_nil ?_
   intro _ hw'
   obtain ⟨⟨dq,osq⟩,hw''⟩:=hw'
   subst hw''
   go_wp2_with fail
   go_ret
   exact ⟨ret_bool HG.out,Below.tr hb (below_regrown W dq osq)⟩
  ·have hd:decide (n≤32)=false:=decide_eq_false h1
   rw [goodB_no (fitsB_no (by omega))]
   go_enter Tryz.func119,Tryz.ntmps119
   go_wp2_with fail
   generalize w.alloc (.cells #[.int .u32 (a:Int),.int .i64 n] 67)=W at hb c0 c1 ⊢
   have k0:=cell_regrown c0
   have k1:=cell_regrown c1
   refine wp_region_quiet_below (by kernel_rfl) (by kernel_rfl) ?_
   repeat (first | go_big_quiet_step (fail) | quiet_step (fail))
   refine wpQuiet_nil ?_
   intro _ hw'
   obtain ⟨⟨dq,osq⟩,hw''⟩:=hw'
   subst hw''
   go_wp2_with fail
   go_ret
   exact ⟨rfl,Below.tr hb (below_regrown W dq osq)⟩
 ·have hd:decide (0≤n)=false:=decide_eq_false h0
  rw [goodB_no (fitsB_no (by omega))]
  go_enter Tryz.func119,Tryz.ntmps119
  go_wp2_with fail
  generalize w.alloc (.cells #[.int .u32 (a:Int),.int .i64 n] 67)=W at hb c0 c1 ⊢
  have k0:=cell_regrown c0
  have k1:=cell_regrown c1
  refine wp_region_quiet_below (by kernel_rfl) (by kernel_rfl) ?_
  repeat (first | go_big_quiet_step (fail) | quiet_step (fail))
  refine wpQuiet_nil ?_
  intro _ hw'
  obtain ⟨⟨dq,osq⟩,hw''⟩:=hw'
  subst hw''
  go_wp2_with fail
  go_ret
  exact ⟨rfl,Below.tr hb (below_regrown W dq osq)⟩
end Pfx
namespace Pfx
open Go.RowKit Go.Sort
theorem below_new2 (w:World) (o o':Obj):Below w.heap.size w ((w.alloc o).alloc o'):=Below.tr (below_new _ _) (below_new _ _)
end Pfx
namespace Pfx
open Go.RowKit Go.Sort
theorem make_in (a n:Nat) (ha:a<4294967296) (hn:n≤32) (w:World) :
  Calls Tryz.prog 134 #[.int .u32 a,.int .i64 n] w fun e w'=>e=.returned (.tuple #[.agg #[.int .u32 (cutN a n:Int),.int .i64 n],.int .i64 0])∧Below w.heap.size w w':=by
 have hf:fitsB (n:Int)=true:=fitsB_yes (by omega) (by omega)
 go_enter Tryz.func134,Tryz.ntmps134
 go_wp2_with (first | (go_at_call 148;refine (fits_any _ _).mono ?_;rintro e w1 ⟨rfl,rfl⟩) | (go_at_call 157;refine (cut_exact _ _ ha hn _).mono ?_;rintro e w2 ⟨rfl,rfl⟩))
 refine bodyPost_ret (v:=.tuple #[.agg #[.int .u32 (cutN a n:Int),.int .i64 n],.int .i64 0]) (by simp [results,Tryz.results134,go_sem]) rfl ⟨rfl,below_new2 _ _ _⟩
end Pfx
end Go.Proofs.YtjfmompgkkdliaaGreatDoor
