import Derived.Test.YtldcjkhbiffdoaaGreatDoorS46
import Derived.Test.YtldcjkhbiffdoaaGreatDoorS47
set_option maxRecDepth 100000
set_option maxHeartbeats 40000000
set_option linter.unusedSimpArgs false
set_option linter.defProp false
namespace Go.Proofs.YtldcjkhbiffdoaaGreatDoor
open Go.ChangeShapes Go.WideShapes Go.ChangeAt Go.RowKit Go.Proofs.Tryz
theorem FA(os:Os)(started:os.Started)(H:Type)(enc:TypeId×Value→H):ReturnsInHanded {} Tryz.checked os 12 .any (fun w args=>(Rows.ownedSpec.pre enc Tryz.prog Tryz.f12 [] false w args∧laidMetH Tryz.prog Rows.ownedRow.laid w)∧sizedMet enc Tryz.prog Tryz.f12 (OpenSpec.ofChange Rows.ownedSpec) false w args) (Rows.ownedSpec.post enc Tryz.prog Tryz.f12 false true false false):=by refine MN (C:=Tryz.checked) (X:=fun w _=>laidMetH Tryz.prog Rows.ownedRow.laid w) (fun _ _ _ hh h=>h.of_heap hh) own started (by kernel_rfl) Tryz.func12 (Mh (enc:=enc) (C:=Tryz.checked) (os:=os) (X:=fun w _=>laidMetH Tryz.prog Rows.ownedRow.laid w) false (World.doorLaid Tryz.prog 400 os) #[.slice none 0 0] 8 rfl (Nw (by kernel_rfl) (by kernel_rfl)) (by kernel_rfl) (by kernel_rfl) (by kernel_rfl) (xb os _)) ?_;intro W base args ds gs before tj hW _ xQ hL _;have mx:(DataW.weightsEach Tryz.prog (Tryz.f12.params.toList++Rows.ownedSpec.plain.varTypes Tryz.prog) (ds++gs)).all (· ≤reachBytes)=true:=xQ;clear xQ;have kZ:∀(j:Nat) t v,Tryz.f12.params[j]?=some t→args[j]?=some v→Value.okWide Tryz.prog W .any base t v:=tj;have Ii:=hW;obtain⟨p,q,Dl,hV,rfl,OV,vL⟩:=hW;have hA:DataW.TrodAll enc Tryz.prog W 0 (fun _=>true) true Tryz.f12.params.toList args.toList ds p:=Dl;rw[Tryz.params12]at hA kZ mx;obtain⟨v0,d0,rfl,rfl,h0⟩:=trodAll_one hA;obtain⟨rfl,rfl⟩:=trodVars_none hV;obtain⟨a0,len,cap,rfl⟩:=okWide_slice Tryz.uSl (kZ 0 22 v0 rfl rfl);have hT:=AR hL;clear Dl tj hL;simp only[tU]at Ii mx;refine(Qn _ len W (tX h0 mx) hT).mono fun e W' ⟨he,hg⟩=>?_;exact T32
theorem RS:Rows.OwnedSaid:=Mn 12 Tryz.f12 rfl rfl rfl rfl rfl rfl rfl ⟨rfl,rfl,rfl,rfl,rfl⟩ rfl rfl rfl rfl rfl (by kernel_rfl) Tryz.func12 (by kernel_rfl) (zk (by kernel_rfl)) (by unfold Func.isWrapper;first|(rw[aA (by decide+kernel)];kernel_rfl)|(rw[az (by decide+kernel)];exact⟨rfl,rfl⟩)) (fun os started H enc _=>FA os started H enc)
theorem owned_holds:Rows.OwnedCardSaid:=
 No .later [] [.data,.data,.data] true (true,"b65c853a27aec64b445a86a95590ffdc16728f78fba7026b426466db836f1af7") false
  RS (fun _ h=>by cases h) (by kernel_rfl) (fun _ h=>by cases h) owned_row_tie rfl ⟨rfl,rfl⟩ (by kernel_rfl) rfl
  (fun f fn hf Hd=>by
   obtain rfl:f=12:=dw ((show Tryz.prog.funcNamed "factor/factorlaw.Owned" =some 12 by kernel_rfl).symm.trans hf)|>.symm
   obtain rfl:fn=Tryz.f12:=(dw (Tryz.func12.symm.trans Hd)).symm
   exact⟨by kernel_rfl,fun j t ht=>by
    rw[Tryz.params12]at ht
    have hm:t∈ [22]:=by simpa using NV ht
    have jr:([22].all fun u=>!Tryz.prog.wantsStandIn u)=true:=by kernel_rfl
    exact(show Tryz.prog.wantsStandIn t=false by simpa using sF.1 jr t hm)⟩)
  (by kernel_rfl)
#print axioms owned_holds
end Go.Proofs.YtldcjkhbiffdoaaGreatDoor
