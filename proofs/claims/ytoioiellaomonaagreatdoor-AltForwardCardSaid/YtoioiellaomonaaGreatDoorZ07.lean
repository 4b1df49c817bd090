import Derived.Shelf.Small.Bits
import Derived.Shelf.SlSortCmp.Xorshift
import Derived.Test.YtoioiellaomonaaGreatDoorProg
set_option maxRecDepth 100000
set_option maxHeartbeats 16000000
namespace Go.Proofs
open Go.Shelf Tryz
def Tryz.lays125_ren:Go.Shelf.Ren:=⟨fun|125=>148|128=>159|129=>160|n=>n,fun|46=>167|3=>3|51=>196|53=>37|4=>4|5=>5|9=>9|n=>n,fun|n=>n⟩
theorem SR:Go.Proofs.Lays.n125 prog Tryz.lays125_ren:={
 mixed:=by kernel_rfl
 f125:=func148.trans (congrArg some (by kernel_rfl))
 f128:=func159.trans (congrArg some (by kernel_rfl))
 f129:=func160.trans (congrArg some (by kernel_rfl))
 t3:=underlying3
 a3:=isAgg3
 z3:=sizeOf3
 v3:=zeroValue3
 t4:=underlying4
 a4:=isAgg4
 z4:=sizeOf4
 v4:=zeroValue4
 t5:=underlying5
 a5:=isAgg5
 z5:=sizeOf5
 v5:=zeroValue5
 t9:=underlying9
 a9:=isAgg9
 z9:=sizeOf9
 v9:=zeroValue9
 t46:=underlying167
 a46:=isAgg167
 z46:=sizeOf167
 v46:=zeroValue167
 t51:=underlying196
 a51:=isAgg196
 z51:=sizeOf196
 v51:=zeroValue196
 t53:=underlying37
 a53:=isAgg37
 z53:=sizeOf37
 v53:=zeroValue37 }
theorem kA(x:Int)(w:World)(h0:0<=x)(h1:x<=18446744073709551615):
  Calls prog 148 #[.int .u64 x] w fun e w'=>e=.returned (.int .i64 (Lib.bitLen x.toNat))/\w'=w:=Any.bits_Len SR x w h0 h1
def Tryz.laysF48_ren:Go.Shelf.Ren:=⟨fun|48=>163|n=>n,fun|76=>203|55=>37|0=>0|66=>197|39=>167|n=>n,fun|n=>n⟩
theorem SU:Go.Proofs.SlLaysF0.n48 prog Tryz.laysF48_ren:={
 mixed:=by kernel_rfl
 f48:=func163.trans (congrArg some (by kernel_rfl))
 t0:=underlying0
 a0:=isAgg0
 z0:=sizeOf0
 v0:=zeroValue0
 t39:=underlying167
 a39:=isAgg167
 z39:=sizeOf167
 v39:=zeroValue167
 t55:=underlying37
 a55:=isAgg37
 z55:=sizeOf37
 v55:=zeroValue37
 t66:=underlying197
 a66:=isAgg197
 z66:=sizeOf197
 v66:=zeroValue197
 t76:=underlying203
 a76:=isAgg203
 z76:=sizeOf203
 v76:=zeroValue203 }
def Tryz.laysF47_ren:Go.Shelf.Ren:=⟨fun|47=>162|15=>148|28=>159|29=>160|n=>n,fun|3=>3|39=>167|53=>196|55=>37|4=>4|5=>5|9=>9|n=>n,fun|n=>n⟩
theorem SZ:Go.Proofs.SlLaysF0.n47 prog Tryz.laysF47_ren:={
 mixed:=by kernel_rfl
 f15:=func148.trans (congrArg some (by kernel_rfl))
 f28:=func159.trans (congrArg some (by kernel_rfl))
 f29:=func160.trans (congrArg some (by kernel_rfl))
 f47:=func162.trans (congrArg some (by kernel_rfl))
 t3:=underlying3
 a3:=isAgg3
 z3:=sizeOf3
 v3:=zeroValue3
 t4:=underlying4
 a4:=isAgg4
 z4:=sizeOf4
 v4:=zeroValue4
 t5:=underlying5
 a5:=isAgg5
 z5:=sizeOf5
 v5:=zeroValue5
 t9:=underlying9
 a9:=isAgg9
 z9:=sizeOf9
 v9:=zeroValue9
 t39:=underlying167
 a39:=isAgg167
 z39:=sizeOf167
 v39:=zeroValue167
 t53:=underlying196
 a53:=isAgg196
 z53:=sizeOf196
 v53:=zeroValue196
 t55:=underlying37
 a55:=isAgg37
 z55:=sizeOf37
 v55:=zeroValue37 }
theorem S0(n:Nat)(hn:n<4611686018427387904)(w:World):
  Calls prog 162 #[.int .i64 n] w fun e w'=>e=.returned (.int .u64 (1 <<< Sort.bitsLen n:Nat))/\w'=w:=AnyF.nextPowerOfTwo SZ n hn w
end Go.Proofs
