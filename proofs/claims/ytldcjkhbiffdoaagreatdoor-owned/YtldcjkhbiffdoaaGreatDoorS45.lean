import Derived.Test.YtldcjkhbiffdoaaGreatDoorS44
import Derived.ProofKit
import Derived.Deep.Slices
import Derived.WideKeyArgs
set_option maxRecDepth 100000
set_option maxHeartbeats 40000000
set_option linter.unusedSimpArgs false
set_option linter.defProp false
namespace Go.Proofs.YtldcjkhbiffdoaaGreatDoor
open Go.ChangeShapes Go.WideShapes Go.ChangeAt Go.RowKit Go.Deep Go.Proofs.Tryz
def PL.E{w w':World}{v:Value}{n:Nat}(h:PL w v n)(a:Below w.heap.size w w'):PL w' v n:=by rcases h with h|⟨c,d,cap,X,rfl,e,f,b,g⟩;exact .inl h;exact .inr ⟨c,d,cap,X,rfl,e,f,fun h=>dy (b h) a.size,fun i hi=>(g i hi).E a (b o)⟩
def Tryz.O3:prog.cellsOf 42=6:=aw
def Tryz.He:prog.cellsOf 3=1:=aw
def Tryz.U0:prog.cellsOf 9=1:=aw
def Tryz.uSl:prog.underlying 22=some (.slice 42):=aw
def Tryz.uI:prog.underlying 3=some (.int .i64):=aw
def Tryz.uS:prog.underlying 9=some .string:=aw
def Kc{n:Int}(h:(Lit.int .i64 n).wf=true):-9223372036854775808≤n∧n≤9223372036854775807:=by have a:IntKind.i64.min=-9223372036854775808:=J;have b:IntKind.i64.max=9223372036854775807:=J;simp[Lit.wf]at h;omega
section
variable{H:Type}{enc:TypeId×Value→H}
def ID{P:Program}{e:TypeId}:∀ {l:List (DataW H)} {d:DataW H},d∈l→∀n∈d.weights P e,n∈DataW.weightsAll P e l
|x::l,d,b,n,a=>by simp only[DataW.weightsAll,fo];rcases ep.1 b with rfl|h;exact .inl a;exact .inr (ID h n a)
def wO{P:Program}{t e:TypeId}{fs:Array Field}{a sp parts:List (DataW H)}{bytes:List UInt8}{j:Nat}{u:TypeId}(h:(DataW.weightsEach P [t] [DataW.slice a sp]).all (· ≤reachBytes)=true)(b:P.underlying t=some (.slice e))(he:P.underlying e=some (.struct fs))(hm:DataW.agg parts∈a)(c:(fs.toList.map (·.type))[j]?=some u)(d:parts[j]?=some (.lit (.string bytes))):bytes.length≤140737488351232:=by have f:reachBytes=140737488351232:=J;rw[←f];refine zk (sF.1 h _ (ahL (j:=0) rfl rfl _ ?_));simp only[DataW.weights,b,ep,fo];refine .inr (.inl (ID hm _ ?_));simp only[DataW.weights,he];exact ahL c d _ (by simp[DataW.weights])
def tX{W:World}{a:Option Addr}{len cap:Nat}{d:DataW H}{p:List MemPlace}(h:DataW.Trod enc prog W 0 (fun _=>true) true 22 (.slice a len cap) d p)(hw:(DataW.weightsEach prog [22] [d]).all (· ≤reachBytes)=true):PL W (.slice a len cap) len:=by
 obtain⟨fuel,h⟩:=h;rcases open_slice Tryz.uSl h with⟨hc,_⟩|⟨ad,aGj,aA5,m,n,D,Pl,hc,_,hl,hm,I,hd,K⟩;simp[Value.cells]at hc;obtain⟨rfl,rfl,rfl⟩:=hc;exact .inl ⟨_,_,rfl,rfl⟩;simp[Value.cells]at hc;obtain⟨rfl,rfl,rfl⟩:=hc;simp only[if_true]at I;subst I;by_cases h0:len=0;subst h0;exact .inl ⟨_,_,rfl,rfl⟩;obtain⟨t,v,spot⟩:=ad;obtain⟨fs,e,mx,Sc⟩:∃fs:Array Field,prog.underlying 42=some (.struct fs)∧fs.size=6∧(fs.toList.map fun f=>(f.type,f.offset))=[(3,0),(3,1),(3,2),(3,3),(9,4),(9,5)]:=⟨_,underlying42,aw,aw⟩;have g:∀(i:Nat)(ty:TypeId)(o:Nat),(fs.toList.map fun f=>(f.type,f.offset))[i]?=some (ty,o)→∃f,fs[i]?=some f∧f.type=ty∧f.offset=o:=fun i ty o hi=>by rw[q_]at hi;obtain⟨f,b,l⟩:=Option.map_eq_some_iff.1 hi;simp at l;exact⟨f,by simpa using b,l.1,l.2⟩
 rw[Sc]at g;obtain⟨f0,g0,t0,o0⟩:=g 0 _ _ rfl;obtain⟨f1,g1,t1,o1⟩:=g 1 _ _ rfl;obtain⟨f2,g2,t2,o2⟩:=g 2 _ _ rfl;obtain⟨f3,g3,t3,o3⟩:=g 3 _ _ rfl;obtain⟨f4,g4,t4,o4⟩:=g 4 _ _ rfl;obtain⟨f5,g5,t5,o5⟩:=g 5 _ _ rfl;have w:spot=none:=by obtain⟨L,q,_⟩:=K 0 ab;rw[Tryz.O3]at q;obtain⟨_,hlen,c⟩:=World.cells?_some q;have r:=c 0 ab;rw[cj ab]at r;simpa[Addr.add]using World.cell?_spot r
 subst w;have M:=jZ Prod.fst hd;simp only at M;rw[M]at hw;have each:∀i,i<len→∃x:OpR,CM W t (v+i*6) x:=by
  intro i hi;obtain⟨L,q,h2⟩:=K i ab;rw[Tryz.O3]at q;obtain⟨_,hlen,c⟩:=World.cells?_some q;obtain⟨xs,k,hk,K_,_,N,b⟩:=DataW.trod_struct e h2;rw[mx]at N;match xs,N,L,hlen with
  | [y0,y1,y2,y3,y4,y5],_,[v0,v1,v2,v3,v4,v5],_=>have y:=b 0 f0 g0;have z:=b 1 f1 g1;have A:=b 2 f2 g2;have B:=b 3 f3 g3;have C:=b 4 f4 g4;have E:=b 5 f5 g5;rw[t0,o0,Tryz.He]at y;rw[t1,o1,Tryz.He]at z;rw[t2,o2,Tryz.He]at A;rw[t3,o3,Tryz.He]at B;rw[t4,o4,Tryz.U0]at C;rw[t5,o5,Tryz.U0]at E;simp at y z A B C E;obtain⟨n0,O,_,_⟩:=NZ Tryz.uI y;obtain⟨F,P,_,w1⟩:=NZ Tryz.uI z;obtain⟨G,q2,_,w2⟩:=NZ Tryz.uI A;obtain⟨n3,Q,_,_⟩:=NZ Tryz.uI B;obtain⟨R,S,z4,_⟩:=DataW.trod_string Tryz.uS C;obtain⟨T,X,z5,_⟩:=DataW.trod_string Tryz.uS E;have s:=jZ Prod.fst K_;simp only[pK,NA]at s;(have Al:DataW.agg [y0.1,y1.1,y2.1,y3.1,y4.1,y5.1]∈(List.range len).map D:=by rw[←s];exact ko.2 ⟨i,Ca.2 hi,rfl⟩);have w4:=wO hw Tryz.uSl e Al (j:=4) (u:=f4.type) (by rw[q_];simp[g4]) (by rw[z4];rfl);have w5:=wO hw Tryz.uSl e Al (j:=5) (u:=f5.type) (by rw[q_];simp[g5]) (by rw[z5];rfl);rw[bJ]at w4 w5;simp at O P q2 Q S X;subst O P q2 Q S X;have r:=c 0 ab;have e1:=c 1 ab;have e2:=c 2 ab;have e3:=c 3 ab;have e4:=c 4 ab;have e5:=c 5 ab;simp only[add_plain]at r e1 e2 e3 e4 e5;have:=Kc w1;have:=Kc w2;refine⟨⟨n0,F,G,n3,R,T⟩,?_⟩;exact⟨by simpa using r,by simpa[rM]using e1,by simpa[rM]using e2,by simpa[rM]using e3,by simpa[rM]using e4,by simpa[rM]using e5,by show _≤F;omega,by show F≤_;omega,by show _≤G;omega,by show G≤_;omega,by show R.size≤_;omega,by show T.size≤_;omega⟩
 refine .inr ⟨t,v,m,fun i=>if hi:i<len then(each i hi).choose else⟨0,0,0,0,.empty,.empty⟩,rfl,hl,hm,fun _=>?_,fun i hi=>?_⟩;obtain⟨x,hx⟩:=each 0 ab;exact agr W _ hx.c0;show CM W t (v+i*6) (if hi:i<len then(each i hi).choose else⟨0,0,0,0,.empty,.empty⟩);rw[dif_pos hi];exact(each i hi).choose_spec
end
end Go.Proofs.YtldcjkhbiffdoaaGreatDoor
