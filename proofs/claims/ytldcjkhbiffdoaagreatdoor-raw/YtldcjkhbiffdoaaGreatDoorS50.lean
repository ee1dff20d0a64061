import Derived.Test.YtldcjkhbiffdoaaGreatDoorS46
import Derived.Test.YtldcjkhbiffdoaaGreatDoorS44
set_option maxRecDepth 100000
set_option maxHeartbeats 40000000
set_option linter.unusedSimpArgs false
set_option linter.defProp false
namespace Go.Proofs.YtldcjkhbiffdoaaGreatDoor
open Go.ChangeShapes Go.WideShapes Go.ChangeAt Go.RowKit Go.Proofs.Tryz
open Go.ChangeMaps (open_string shut_string)
theorem LK(os:Os)(started:os.Started)(H:Type)(enc:TypeId×Value→H):ReturnsInHanded {} Tryz.checked os 13 .any (fun w args=>(Rows.rawSpec.pre enc Tryz.prog Tryz.f13 [] false w args∧laidMetH Tryz.prog Rows.rawRow.laid w)∧sizedMet enc Tryz.prog Tryz.f13 (OpenSpec.ofChange Rows.rawSpec) false w args) (Rows.rawSpec.post enc Tryz.prog Tryz.f13 false true false false):=by refine MN (C:=Tryz.checked) (X:=fun w _=>laidMetH Tryz.prog Rows.rawRow.laid w) (fun _ _ _ hh h=>h.of_heap hh) own started (by kernel_rfl) Tryz.func13 (Mh (enc:=enc) (C:=Tryz.checked) (os:=os) (X:=fun w _=>laidMetH Tryz.prog Rows.rawRow.laid w) false (World.doorLaid Tryz.prog 400 os) #[.string ByteArray.empty,.string ByteArray.empty,.int .i64 0] 8 rfl (Nw (by kernel_rfl) (by kernel_rfl)) (by kernel_rfl) (by kernel_rfl) (by kernel_rfl) (xb os _)) ?_;intro W base args ds gs before tj hW _ _ hL _;have kZ:∀(j:Nat) t v,Tryz.f13.params[j]?=some t→args[j]?=some v→Value.okWide Tryz.prog W .any base t v:=tj;have Ii:=hW;obtain⟨p,q,Dl,hV,rfl,OV,vL⟩:=hW;have hA:DataW.TrodAll enc Tryz.prog W 0 (fun _=>true) true Tryz.f13.params.toList args.toList ds p:=Dl;rw[Tryz.params13]at hA kZ;obtain⟨v0,v1,v2,d0,d1,d2,p0,p1,p2,rfl,rfl,rfl,h0,h1,h2⟩:=trodAll_three hA;obtain⟨rfl,rfl⟩:=trodVars_none hV;obtain⟨a0,rfl,rfl,rfl,w0⟩:=open_string Tryz.underlying9 (kZ 0 9 v0 rfl rfl) h0;obtain⟨a1,rfl,rfl,rfl,w1⟩:=open_string Tryz.underlying9 (kZ 1 9 v1 rfl rfl) h1;obtain⟨a2,rfl,rfl,rfl,w2⟩:=open_int Tryz.underlying3 (kZ 2 3 v2 rfl rfl) h2;have hT:=AR hL;clear Dl tj hL;simp only[tU]at Ii;refine(ZJ a0 a1 a2 W hT (by unfold maxLen at w0;omega) (by unfold maxLen at w1;omega)).mono fun e W' ⟨he,hg⟩=>?_;subst he;exact⟨_,rfl,_,_,_,[],[],[],Ii,trodAll_mk1 (shut_bool Tryz.underlying4 _),trodAll_mk3 (shut_string Tryz.underlying9 w0) (shut_string Tryz.underlying9 w1) (shut_int Tryz.underlying3 w2),rfl,hg.frame _,fun h=>by cases h⟩
theorem aaz:Rows.RawSaid:=Mn 13 Tryz.f13 rfl rfl rfl rfl rfl rfl rfl ⟨rfl,rfl,rfl,rfl,rfl⟩ rfl rfl rfl rfl rfl (by kernel_rfl) Tryz.func13 (by kernel_rfl) (zk (by kernel_rfl)) (by unfold Func.isWrapper;first|(rw[aA (by decide+kernel)];kernel_rfl)|(rw[az (by decide+kernel)];exact⟨rfl,rfl⟩)) (fun os started H enc _=>LK os started H enc)
theorem raw_holds:Rows.RawCardSaid:=
 No .later [] [.data,.data,.data] true (true,"b65c853a27aec64b445a86a95590ffdc16728f78fba7026b426466db836f1af7") false
  aaz (fun _ h=>by cases h) (by kernel_rfl) (fun _ h=>by cases h) raw_row_tie rfl ⟨rfl,rfl⟩ (by kernel_rfl) rfl
  (fun f fn hf Hd=>by
   obtain rfl:f=13:=dw ((show Tryz.prog.funcNamed "factor/factorlaw.Raw" =some 13 by kernel_rfl).symm.trans hf)|>.symm
   obtain rfl:fn=Tryz.f13:=(dw (Tryz.func13.symm.trans Hd)).symm
   exact⟨by kernel_rfl,fun j t ht=>by
    rw[Tryz.params13]at ht
    have hm:t∈ [9,9,3]:=by simpa using NV ht
    have jr:([9,9,3].all fun u=>!Tryz.prog.wantsStandIn u)=true:=by kernel_rfl
    exact(show Tryz.prog.wantsStandIn t=false by simpa using sF.1 jr t hm)⟩)
  (by kernel_rfl)
#print axioms raw_holds
end Go.Proofs.YtldcjkhbiffdoaaGreatDoor
