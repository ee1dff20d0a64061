import Derived.Test.YtldcjkhbiffdoaaGreatDoorRows
import Derived.Test.YtldcjkhbiffdoaaGreatDoorTie
import Derived.Test.YtldcjkhbiffdoaaGreatDoorCards
import Derived.Test.YtldcjkhbiffdoaaGreatDoorS45
import Derived.ProofKit
import Derived.LaidMore
import Derived.OpenShut
import Derived.ShutString
import Derived.Stop.Joined
import Derived.SevenTiedAt
import Derived.Lib.LaidTab
set_option maxRecDepth 100000
set_option maxHeartbeats 40000000
set_option linter.unusedSimpArgs false
set_option linter.defProp false
namespace Go.Proofs.YtldcjkhbiffdoaaGreatDoor
open Go.ChangeShapes Go.WideShapes Go.ChangeAt Go.RowKit Go.Proofs.Tryz
theorem own:ownKnob Tryz.prog.godebug=none:=by kernel_rfl
theorem Tryz.Uu:laidOutB Tryz.prog=true:=by kernel_rfl
theorem ae_:Tryz.prog.globalNamed "internal/strconv.uint64pow10" =some 0:=by kernel_rfl
theorem avj:(Tryz.prog.globals[0]?).map (·.type)=some 203:=by kernel_rfl
theorem Uc:Tryz.prog.cellsOf 197=1:=by kernel_rfl
theorem Td:Tryz.prog.cellsOf 203=20:=by kernel_rfl
theorem aa_:(Rows.laid_internal_strconv_uint64pow10:DataW Unit)=Lib.tabData .u64 Lib.pow10Tab:=by kernel_rfl
theorem xb(os:Os)(args:Array Value):laidMetH Tryz.prog Rows.readsRow.laid ((World.doorLaid Tryz.prog 400 os).forCall (fun _ _=>0) ⟨#[],args,[]⟩).memory:=laidMetH_of_parts3 (fuel:=8) (laidMet_of_run' 8 (by kernel_rfl) (by kernel_rfl)) (by kernel_rfl) (by kernel_rfl)
theorem AR{W:World}(h:laidMetH Tryz.prog Rows.readsRow.laid W):ow W:=by rw[MakeChecks.laidMetH_plain _ _ _ (by kernel_rfl)]at h;obtain⟨ps,⟨g0,t0,cs0,f0,p0,q0,hg0,ht0,hv0,AE,⟨g1,t1,cs1,f1,p1,q1,mB,QZ,qp,my,⟨g2,t2,cs2,f2,p2,q2,zE,uo,kN,nC,_,_⟩,_⟩,_⟩,_,_⟩:=h;obtain rfl:=dw (ae_.symm.trans zE);obtain rfl:=dw (avj.symm.trans uo);rw[aa_]at nC;have sQ:=Lib.cells_of_tab Tryz.underlying203 Tryz.underlying197 Uc Td nC;(have aaH:Lib.TabIs Tryz.prog W "internal/strconv.uint64pow10" .u64 Lib.pow10Tab:=by unfold Lib.TabIs;rw[kN];congr 1;rw[←sQ]);refine⟨aaH,0,ae_,?_⟩;have:=aaH.cell ae_ 0 (by decide);exact agr W _ this
end Go.Proofs.YtldcjkhbiffdoaaGreatDoor
