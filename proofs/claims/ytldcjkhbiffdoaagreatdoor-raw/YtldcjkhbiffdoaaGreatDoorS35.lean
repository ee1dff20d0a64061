import Derived.Test.YtldcjkhbiffdoaaGreatDoorS29
import Derived.Test.YtldcjkhbiffdoaaGreatDoorS34
import Derived.Test.YtldcjkhbiffdoaaGreatDoorS24
import Derived.Deep.DeepCutAuto
import Derived.Test.YtldcjkhbiffdoaaGreatDoorS23
import Derived.Test.YtldcjkhbiffdoaaGreatDoorS27
import Derived.Test.YtldcjkhbiffdoaaGreatDoorS32
import Derived.Test.YtldcjkhbiffdoaaGreatDoorS12
set_option maxRecDepth 100000
set_option maxHeartbeats 40000000
set_option linter.unusedSimpArgs false
set_option linter.defProp false
namespace Go.Proofs.YtldcjkhbiffdoaaGreatDoor
open Go.RowKit Go.Proofs.Tryz
def A7:ByteArray:=⟨#[109,105,110,101]⟩
def Full(C:Nat)(w:World)(r:Value)(i:Nat):Prop:=∃ao c,r=.slice ao c c∧c≤maxLen∧(ao=none→c=0)∧∀b,ao=some b→∃g cur,b=⟨g,0,none⟩∧g<C∧w.heap[g]?=some (.cells cur 64 (0,0))∧∀j,j<c→cur[j*2]?=some (.string A7)∧cur[j*2+1]?=some (.int .i64 (-1-(i:Int)))
def Full.up{C D:Nat}{w:World}{r:Value}{i:Nat}(h:Full C w r i)(a:C≤D):Full D w r i:=by obtain⟨d,c,f,j,k,l⟩:=h;refine⟨d,c,f,j,k,fun b m=>?_⟩;obtain⟨g,cur,e,n,r⟩:=l b m;exact⟨g,cur,e,dy n a,r⟩
def Full.kE{C:Nat}{w w':World}{r:Value}{i:Nat}(h:Full C w r i)(d:∀g cur,g<C→w.heap[g]?=some (Obj.cells cur 64 (0,0))→w'.heap[g]?=some (Obj.cells cur 64 (0,0))):Full C w' r i:=by obtain⟨f,c,j,k,l,m⟩:=h;refine⟨f,c,j,k,l,fun b n=>?_⟩;obtain⟨g,cur,e,a,p,r⟩:=m b n;exact⟨g,cur,e,a,d g cur a p,r⟩
def uR(B C:Nat)(w:World)(lv:Value)(n:Nat):Prop:=∃rs:List Value,rs.length=n∧w.ownsRow B 59 1 lv n rs∧∀i r,rs[i]?=some r→Full C w r i
def uR.nil(B C:Nat)(w:World):uR B C w (.slice none 0 0) 0:=⟨[],rfl,Dk w B _ _,fun i r h=>cT⟩
def uR.up{B C D:Nat}{w:World}{lv:Value}{n:Nat}(h:uR B C w lv n)(a:C≤D):uR B D w lv n:=by obtain⟨rs,b,c,d⟩:=h;exact⟨rs,b,c,fun i r e=>(d i r e).up a⟩
def uR.kq{B C c:Nat}{w w':World}{lv:Value}{n:Nat}(h:uR B C w lv n)(a:Kq c w w'):uR B C w' lv n:=by obtain⟨rs,d,b,e⟩:=h;refine⟨rs,d,⟨b.1,?_⟩,fun i r f=>(e i r f).kE fun g cur _ j=>a.kE g _ _ _ j MW⟩;rcases b.2 with h|⟨g,cap,cur,k,l,m,r⟩;exact .inl h;exact .inr ⟨g,cap,cur,k,l,a.kE g _ _ _ m MW,r⟩
def uR.val{B C:Nat}{w:World}{lv:Value}{n:Nat}(h:uR B C w lv n):∃a c,lv=.slice a n c:=T47
def uR.at{B C:Nat}{w:World}{a:Option Addr}{c n:Nat}(h:uR B C w (.slice a n c) n)(i:Nat)(hi:i<n):∃g r,a=some ⟨g,0,none⟩∧n≤c∧c≤maxLen∧g<w.heap.size∧w.cell? ⟨g,i,none⟩=some r∧Full C w r i:=by obtain⟨rs,m,b,f⟩:=h;rcases b.2 with⟨_,p⟩|⟨g,cap,cur,d,q,j,k,l,_⟩;omega;simp only[jD,h_]at d;obtain⟨rfl,rfl⟩:=d;have e:rs[i]?=some rs[i]:=cj o;refine⟨g,rs[i],rfl,k,l,(gf.1 j).1,?_,f i _ e⟩;rw[b.cellAt i o,e]
def uR.gO{B C:Nat}{w:World}{lv:Value}{n:Nat}(h:uR B C w lv n):∀k,lv.ownBlock=some k→B≤k∧∃cur,w.heap[k]?=some (.cells cur 59 (0,0)):=by obtain⟨rs,i,b,j⟩:=h;intro k a;rcases b.2 with⟨c,_⟩|⟨g,cap,cur,d,e,f,_⟩;rw[c]at a;simp[Value.ownBlock]at a;rw[d]at a;simp[Value.ownBlock]at a;subst a;exact⟨e,cur,f⟩
def mD.cell{lv:Value}{B:Nat}{w:World}{k:Nat}{ps:List (ae)}(h:mD lv B w k ps):k<w.heap.size∧w.cell? ⟨k,1,none⟩=some lv∧w.frozen? ⟨k,1,none⟩=false:=by obtain⟨a,c,b,d⟩:=h;exact⟨(gf.1 b).1,by simp[World.cell?,b],by simp[World.frozen?,b]⟩
def EB(B C k n:Nat)(lv:Value)(ps:List (ae))(w:World)(D:mD lv B w k ps)(s:uR B C w lv n)(N:C≤w.heap.size)(O:n≤100000000):Calls prog 21 #[.pointer (some ⟨k,0,none⟩)] w fun e w'=>e=.returned (.bool true)∧Below w.heap.size w w':=by
 obtain⟨la,lc,rfl⟩:=s.val;obtain⟨P,hc,_⟩:=D.cell;go_enter func21,ntmps21;go_wp2_with fail;go_loopw [12] (fun i wr=>∃j:Nat,i=.int .i64 (j:Nat)∧j≤n∧Below w.heap.size w wr) (fun i _=>n-(intOf i).toNat);case atStart=>exact⟨0,rfl,aU _,aL _ _⟩
 case round=>
  obtain⟨j,rfl,Q,d⟩:=hrel;by_cases E:j<n
  ·obtain⟨g,r,rfl,R,S,t,h,f⟩:=s.at j E;obtain⟨F,c,rfl,G,l,f⟩:=f;have T:=(d.cell (p:=⟨g,j,none⟩) t).trans h;have W:=dy t d.size;have H:(j:Int)<(n:Int):=o;have X:(0:Int)≤(j:Int):=o;(have I:c≤9223372036854775807:=by unfold maxLen at G;omega);go_wp2_with fail;obtain⟨u,rfl⟩:∃u,u=wr:=⟨_,rfl⟩;go_loopw [19] (fun i wr=>∃q:Nat,i=.int .i64 (q:Nat)∧q≤c∧Below w.heap.size w wr) (fun i _=>c-(intOf i).toNat);(case atStart=>exact⟨0,rfl,aU _,d⟩);case round=>
    obtain⟨q,rfl,hq,a⟩:=hrel;by_cases m:q<c
    ·cases F with
     |none=>have:=l rfl;omega
     |some b=>obtain⟨g2,cur,rfl,K,v,x⟩:=f b rfl;obtain⟨y,z⟩:=x q m;have A:g2<w.heap.size:=o;have c0:wr.cell? ⟨g2,q*2,none⟩=some (.string A7):=(a.cell (p:=⟨g2,q*2,none⟩) A).trans (by simp[World.cell?,v,y]);have c1:wr.cell? ⟨g2,q*2+1,none⟩=some (.int .i64 (-1-(j:Int))):=(a.cell (p:=⟨g2,q*2+1,none⟩) A).trans (by simp[World.cell?,v,z]);have L:(q:Int)<(c:Int):=o;have M:(0:Int)≤(q:Int):=o;have Ov:IntKind.i64.wrap (-1-(j:Int))=-1-(j:Int):=iy;unfold A7 at c0;clear y z x f;go_wp2;go_roundw;(case rel=>exact⟨q+1,by go_num,o,a.trans ((ai _ _).mono a.size)⟩);case measure=>simp[intOf];omega
    ·(have L:¬(q:Int)<(c:Int):=by omega);go_wp2;go_roundw;(case rel=>exact⟨j+1,by go_num,o,a⟩);case measure=>simp[intOf];omega
  ·(have H:¬(j:Int)<(n:Int):=by omega);go_wp2;go_ret;exact⟨rfl,d⟩
structure Mf(w w':World)(k:Nat)(o1 o2:Option Nat):Prop where
 os:w'.os=w.os
 tape:w'.tape=w.tape
 output:w'.output=w.output
 size:w.heap.size≤w'.heap.size
 block:∀j,j<w.heap.size→j≠k→some j≠o1→some j≠o2→w'.heap[j]?=w.heap[j]?
structure Rz(w wr:World)(ao:Option Addr)(c j n:Nat):Prop where
 size:wr.heap.size=w.heap.size
 os:wr.os=w.os
 tape:wr.tape=w.tape
 output:wr.output=w.output
 other:∀g,(∀b,ao=some b→g≠b.block)→wr.heap[g]?=w.heap[g]?
 cur:∀b,ao=some b→∃cur:Array Value,wr.heap[b.block]?=some (.cells cur 64 (0,0))∧cur.size=c*2∧∀i,i<j→cur[i*2]?=some (.string A7)∧cur[i*2+1]?=some (.int .i64 (-1-(n:Int)))
def MB{w:World}{g c j:Nat}{cur:Array Value}(h:w.heap[g]?=some (.cells cur 64 (0,0)))(f:cur.size=c*2)(p:j<c)(a b:Value):∃d:Array Value,((w.setCell ⟨g,j*2,none⟩ a).setCell ⟨g,j*2+1,none⟩ b).heap[g]?=some (.cells d 64 (0,0))∧d.size=c*2∧d[j*2]?=some a∧d[j*2+1]?=some b∧∀i,i≠j*2→i≠j*2+1→d[i]?=cur[i]?:=by have k:=gI w g (j*2) cur _ a h;have l:=gI _ g (j*2+1) _ _ b k;refine⟨_,l,by simp[f],?_,?_,?_⟩;rw[Hg];rw[U o,Hg,V rfl,V o];rw[Hg,V rfl,V aZ];intro i m n;rw[Hg,U (fun e=>n e.symm),Hg,U (fun e=>m e.symm)]
def Rz.next{w wr:World}{d:Option Addr}{c j n g:Nat}(h:Rz w wr d c j n)(a:d=some ⟨g,0,none⟩)(m:j<c):Rz w ((wr.setCell ⟨g,j*2,none⟩ (.string A7)).setCell ⟨g,j*2+1,none⟩ (.int .i64 (-1-(n:Int)))) d c (j+1) n:=by obtain⟨cur,p,q,r⟩:=h.cur _ a;obtain⟨s,t,u,v,x,e⟩:=MB p q m (.string A7) (.int .i64 (-1-(n:Int)));refine⟨by simp[World.setCell,h.size],by simp[World.setCell,h.os],by simp[World.setCell,h.tape],by simp[World.setCell,h.output],fun g' f=>?_,fun b k=>?_⟩;have l:g'≠g:=f _ a;rw[e9 _ _ _ _ l,e9 _ _ _ _ l];exact h.other g' f;rw[a]at k;cases k;refine⟨s,t,u,fun i hi=>?_⟩;by_cases y:i=j;subst y;exact⟨v,x⟩;rw[e (i*2) o o,e (i*2+1) o o];exact r i o
def Nc(e:TypeId):Prop:=tT e∨e=64
def agh:KW Nc:=by unfold KW QF Nc tT Tn;decide
def abG:(prog.info? 59).map (fun i=>(i.zero,i.size,i.bytes))=some (some (.slice none 0 0),1,24):=aw
def YT:prog.underlying 27=some (.slice 59):=aw
def Rp{B C k n:Nat}{la l:Option Addr}{lc c:Nat}{ps:List (ae)}{fs:List (ae×Nat)}{w wr w2:World}{v:Value}(hW:mD (.slice la n lc) B w k ps)(A:uR B C w (.slice la n lc) n)(I:fm C w (.slice l fs.length c) fs)(K:(l=none∧c=0)∨∃g cur,l=some ⟨g,0,none⟩∧C≤g∧w.heap[g]?=some (.cells cur 64 (0,0))∧cur.size=c*2∧fs.length≤c∧c≤maxLen)(mz:c≤maxLen)(t:Rz w wr l c c n){rs:List Value}(XC:rs.length=n)(L:∀i r,rs[i]?=some r→Full C w r i)(g1:w2.ownsRow B 59 1 v (n+1) (rs++[.slice l c c]))(g2:(wr.alloc (.cells #[.slice l c c] 59)).grownBy w2 (Value.slice la n lc).ownBlock):w2.cell? ⟨k,1,none⟩=some (.slice la n lc)∧w2.frozen? ⟨k,1,none⟩=false∧k<w2.heap.size∧(∃vB,mD vB B (w2.setCell ⟨k,1,none⟩ v) k ps∧uR B (w2.setCell ⟨k,1,none⟩ v).heap.size (w2.setCell ⟨k,1,none⟩ v) vB (n+1))∧Mf w (w2.setCell ⟨k,1,none⟩ v) k (Value.slice la n lc).ownBlock (Value.slice l fs.length c).ownBlock∧Kg Nc 0 w (w2.setCell ⟨k,1,none⟩ v)∧(w2.setCell ⟨k,1,none⟩ v).cell? ⟨k,0,none⟩=w.cell? ⟨k,0,none⟩:=by
 obtain⟨wa,wq,u,hQ⟩:=hW;have M:=bw u;have mx:(w2.setCell ⟨k,1,none⟩ v).heap.size=w2.heap.size:=xm;have hsa:(wr.alloc (.cells #[.slice l c c] 59)).heap.size=w.heap.size+1:=by simp[t.size]
 have s:∀b,l=some b→(Value.slice l fs.length c).ownBlock=some b.block∧b.block<w.heap.size∧∃cur,w.heap[b.block]?=some (.cells cur 64 (0,0)):=fun b a=>by rcases K with⟨h,_⟩|⟨g,cur,h,_,N,_⟩;rw[h]at a;cases a;rw[h]at a ⊢;cases a;exact⟨rfl,(gf.1 N).1,cur,N⟩
 have vC:∀j,j<w.heap.size→some j≠(Value.slice la n lc).ownBlock→(∀b,l=some b→j≠b.block)→w2.heap[j]?=w.heap[j]?:=fun j m O x=>by rw[g2.block j o O,heap_alloc_old _ _ (by rw[t.size];exact m)];exact t.other j x
 have P:some k≠(Value.slice la n lc).ownBlock:=fun e=>by obtain⟨_,cur,hc⟩:=A.gO k e.symm;rw[u]at hc;simp at hc
 have D:∀b,l=some b→k≠b.block:=fun b a e=>by obtain⟨_,_,cur,hc⟩:=s b a;rw[←e,u]at hc;simp at hc
 have z:=(vC k M P D).trans u;have i_:=bw z;have p:Mf w (w2.setCell ⟨k,1,none⟩ v) k (Value.slice la n lc).ownBlock (Value.slice l fs.length c).ownBlock:=by have xy:=g2.size;refine⟨?_,?_,?_,o,fun j m F O x=>?_⟩;rw[show(w2.setCell ⟨k,1,none⟩ v).os=w2.os by simp[World.setCell],g2.os];exact t.os;rw[show(w2.setCell ⟨k,1,none⟩ v).tape=w2.tape by simp[World.setCell],g2.tape];exact t.tape;rw[show(w2.setCell ⟨k,1,none⟩ v).output=w2.output by simp[World.setCell],g2.output];exact t.output;rw[e9 _ _ _ _ F];exact vC j m O fun b a e=>x (by rw[(s b a).1,e])
 have Sc:∀(j:Nat)(Q:Array Value)(e:TypeId)(f:Nat×Nat),w.heap[j]?=some (Obj.cells Q e f)→¬Nc e→(w2.setCell ⟨k,1,none⟩ v).heap[j]?=some (Obj.cells Q e f):=fun j Q e f m R=>by rw[p.block j (bw m) (fun d=>?_) (fun d=>?_) (fun d=>?_)];exact m;rw[d,u]at m;simp at m;exact R (.inl (.inl (.inl m.2.1.symm)));obtain⟨_,cur,hc⟩:=A.gO j d.symm;rw[m]at hc;simp at hc;exact R (.inl (.inr hc.2.1));obtain⟨cur,hc⟩:=I.gO j d.symm;rw[m]at hc;simp at hc;exact R (.inr hc.2.1)
 have E:Kg Nc 0 w (w2.setCell ⟨k,1,none⟩ v):=⟨⟨p.os,p.tape,p.output,p.size,fun j m=>o⟩,Sc⟩;refine⟨by simp[World.cell?,z],by simp[World.frozen?,z],i_,⟨v,⟨wa,wq,?_,?_⟩,?_⟩,p,E,by rw[y9 u];simp[World.cell?,gI w2 k 1 _ _ _ z]⟩;rw[gI w2 k 1 _ _ _ z];rfl;refine hQ.stays E (fun j m=>?_) agh;obtain⟨cur,hc⟩:=hQ.gO j m;refine p.block j (bw hc) (fun d=>?_) (fun d=>?_) (fun d=>?_);rw[d,u]at hc;simp at hc;obtain⟨_,S,q⟩:=A.gO j d.symm;rw[hc]at q;simp at q;obtain⟨S,q⟩:=I.gO j d.symm;rw[hc]at q;simp at q;refine⟨rs++[.slice l c c],by simp[XC],iJ g1 fun j cur m hc=>e9 _ _ _ _ fun e=>?_,fun i r y=>?_⟩;have e:j=k:=e;rw[e,z]at hc;simp at hc;rw[mx];by_cases hi:i<rs.length;rw[eo hi]at y;have hF:=L i r y;have qJ:∀g cur,g<C→w.heap[g]?=some (Obj.cells cur 64 (0,0))→(w2.setCell ⟨k,1,none⟩ v).heap[g]?=some (Obj.cells cur 64 (0,0)):=fun g cur N hc=>by rw[p.block g (bw hc) (fun d=>?_) (fun d=>?_) (fun d=>?_)];exact hc;rw[d,u]at hc;simp at hc;obtain⟨_,S,q⟩:=A.gO g d.symm;rw[hc]at q;simp at q;have:=I.block g d.symm;omega
 obtain⟨T,c',f1,f2,f3,f4⟩:=hF;refine⟨T,c',f1,f2,f3,fun b a=>?_⟩;obtain⟨g,cur,W,e2,G,e4⟩:=f4 b a;have OG:=bw G;have xy:=p.size;exact⟨g,cur,W,o,qJ g cur e2 G,e4⟩;rw[iN o]at y;have X:i-rs.length=0:=by rcases j5 (i-rs.length)with F|F;exact F;rw[dF aZ]at y;simp at y
 rw[X]at y;simp at y;subst y;obtain rfl:i=n:=o;refine⟨l,c,rfl,mz,fun h=>?_,fun b a=>?_⟩;rcases K with⟨_,x⟩|⟨g,cur,x,_⟩;exact x;rw[h]at x;cases x;obtain⟨cur,W,e2,G⟩:=t.cur b a;have hbg:∃g,b=⟨g,0,none⟩:=by rcases K with⟨h,_⟩|⟨g,cur,h,_⟩;rw[h]at a;cases a;rw[h]at a;cases a;exact⟨g,rfl⟩
 obtain⟨g,rfl⟩:=hbg;have mB:=(s _ a).2.1;have xy:=p.size;have mB:g<w.heap.size:=mB;refine⟨g,cur,rfl,o,?_,G⟩;have aF:g≠k:=fun e=>D _ a e.symm;rw[e9 _ _ _ _ aF,g2.block g o (fun d=>?_),heap_alloc_old _ _ (by rw[t.size];exact mB)];exact W;obtain⟨_,S,q⟩:=A.gO g d.symm;obtain⟨_,_,aDh,H⟩:=s _ a;have H:w.heap[g]?=_:=H;rw[q]at H;simp at H
def S0(B C k n:Nat)(lv:Value)(ps:List (ae))(l:Value)(fs:List (ae×Nat))(w:World)(H:mD lv B w k ps)(I:uR B C w lv n)(z:fm C w l fs)(hB:B≤k)(hn:n≤100000000):Calls prog 43 #[.pointer (some ⟨k,0,none⟩),l] w fun e w'=>e=.returned (.tuple #[])∧(∃X,mD X B w' k ps∧uR B w'.heap.size w' X (n+1))∧Mf w w' k lv.ownBlock l.ownBlock∧Kg Nc 0 w w'∧w'.cell? ⟨k,0,none⟩=w.cell? ⟨k,0,none⟩:=by
 obtain⟨d,c,rfl⟩:=z.val;obtain⟨la,lc,rfl⟩:=I.val;obtain⟨hk,N,hkf⟩:=H.cell;have r:(d=none∧c=0)∨∃g cur,d=some ⟨g,0,none⟩∧C≤g∧w.heap[g]?=some (.cells cur 64 (0,0))∧cur.size=c*2∧fs.length≤c∧c≤maxLen:=by rcases z.2 with⟨O,h2⟩|⟨g,cap,cur,K,f,m,L,M,sQ,_⟩;simp at O;exact .inl ⟨O.1,O.2.2⟩;simp only[jD,h_]at K;obtain⟨rfl,rfl⟩:=K;exact .inr ⟨g,cur,rfl,f,m,sQ,L,M⟩
 have M:c≤maxLen:=by rcases r with⟨_,rfl⟩|⟨_,_,_,_,_,_,_,h⟩;exact aU _;exact h
 have avq:c≤9223372036854775807:=by unfold maxLen at M;omega
 have s:∀b,d=some b→k≠b.block:=fun b f e=>by rcases r with⟨h,_⟩|⟨g,cur,h,_,m,_⟩;rw[h]at f;cases f;rw[h]at f;cases f;obtain⟨wa,wq,p,_⟩:=H;have e:k=g:=e;rw[e,m]at p;simp at p
 have P:Rz w w d c 0 n:=⟨rfl,rfl,rfl,rfl,fun _ _=>rfl,fun b f=>by rcases r with⟨h,_⟩|⟨g,cur,h,_,m,Q,_⟩;rw[h]at f;cases f;rw[h]at f;cases f;exact⟨cur,m,Q,fun i hi=>o⟩⟩;have t:∀j,j<c→∃g,d=some ⟨g,0,none⟩:=fun j hj=>by rcases r with⟨_,rfl⟩|⟨g,cur,h,_⟩;omega;exact⟨g,h⟩
 have Ov:IntKind.i64.wrap (-1-(n:Int))=-1-(n:Int):=iy;go_enter func43,ntmps43;go_upto_region 0 with fail;go_cut [1] (fun s1 wc=>s1=.slice d c c∧wc=w);case first=>rcases r with⟨rfl,rfl⟩|⟨g,cur,rfl,_,_,_,hf1,_⟩;(·(have hz:fs.length=0:=by rcases z.2 with⟨_,h2⟩|⟨g,cap,cur,K,_⟩;exact h2;simp at K);clear t P s;rw[hz];go_wp2_with fail;go_meet;case rel=>exact⟨rfl,rfl⟩);·(have h1i:(fs.length:Int)≤(c:Int):=by omega);have h2i:(0:Int)≤(c:Int):=o;clear t P s;go_wp2_with fail;go_meet;case rel=>exact⟨rfl,rfl⟩
 case rest=>
  obtain⟨rfl,A⟩:=hcut;rw[A];clear A;go_wp2_with fail;go_loopw [12] (fun i wr=>∃j:Nat,i=.int .i64 (j:Nat)∧j≤c∧Hid (Rz w wr d c j n)) (fun i _=>c-(intOf i).toNat);case atStart=>exact⟨0,rfl,aU _,P⟩
  case round=>
   obtain⟨j,rfl,hj,x⟩:=hrel;(have hkr:wr.cell? ⟨k,1,none⟩=some (.slice la n lc):=by have:=x.O.other k s;rw[Yw (a:=⟨k,1,none⟩) this];exact N);(have aeD:k<wr.heap.size:=by rw[x.O.size];exact hk);by_cases D:j<c;(·obtain⟨g,m⟩:=t j D;obtain⟨cur,p,Q,_⟩:=x.O.cur _ m;have HN:Hid _:=x.O.next m D;obtain⟨y0,mA⟩:∃y,cur[j*2]?=some y:=⟨_,afi o⟩;obtain⟨y1,nV⟩:∃y,cur[j*2+1]?=some y:=⟨_,afi o⟩;(have c0:wr.cell? ⟨g,j*2,none⟩=some y0:=by simp[World.cell?,p,mA]);(have c1:wr.cell? ⟨g,j*2+1,none⟩=some y1:=by simp[World.cell?,p,nV]);(have f0:wr.frozen? ⟨g,j*2,none⟩=false:=by simp[World.frozen?,p]);(have f1:wr.frozen? ⟨g,j*2+1,none⟩=false:=by simp[World.frozen?,p]);have ye:(j:Int)<(c:Int):=o;have Rn:(0:Int)≤(j:Int):=o;unfold A7 at HN;clear p Q mA nV;subst m;go_wp2;go_roundw;(case rel=>exact⟨j+1,by go_num,o,HN⟩);case measure=>simp[intOf];omega)
   ·(have ye:¬(j:Int)<(c:Int):=by omega);obtain rfl:j=c:=o;obtain⟨rs,XC,e7,R⟩:=id I;(have JM:wr.ownsRow B 59 1 (.slice la n lc) n rs:=iJ e7 fun q cur hq hc=>x.O.other q fun b f e=>by rcases r with⟨h,_⟩|⟨g,mJ,h,_,m,_⟩;rw[h]at f;cases f;rw[h]at f;cases f;have e:q=g:=e;rw[e,m]at hc;simp at hc);have tH:=oq JM (.cells #[.slice d j j] 59);obtain⟨ii,US,Uf,UT,Wy⟩:=fS abG;have z7:(wr.alloc (.cells #[.slice d j j] 59)).heap[wr.heap.size]?=some (.cells #[.slice d j j] 59 (0,0)):=fL wr _;have L:∀S:World,S.heap[wr.heap.size]?=some (.cells #[.slice d j j] 59 (0,0))→S.cell? ⟨wr.heap.size,0,none⟩=some (.slice d j j):=fun S h=>Ct;have E:Hid (∀v w2,w2.ownsRow B 59 1 v (n+1) (rs++[.slice d j j])→(wr.alloc (.cells #[.slice d j j] 59)).grownBy w2 (Value.slice la n lc).ownBlock→_):=fun v w2 g1 g2=>Rp H I z r M x.O XC R g1 g2;have F:Hid _:=tH;have G:Hid (∀i u,[Value.slice d j j][i]?=some u→(wr.alloc (.cells #[.slice d j j] 59)).cell? ((⟨wr.heap.size,0,none⟩:Addr).add i)=some u):=fun i u hu=>by
     cases i with
     |zero=>simp at hu;subst hu;exact L _ z7
     |succ i=>simp at hu
    have hBs:B≤wr.heap.size:=o;clear e7 JM tH z7 L x I H z;go_wp2_with(at_builtin;refine Mt _ rfl (.tmp 29) (.tmp 31) 27 rfl B 59 ii (.slice none 0 0) 1 24 YT US Uf UT Wy rfl J _ n rs rfl F.O ⟨wr.heap.size,0,none⟩ 1 1 [.slice d j j] rfl rfl G.O (fun u hu=>by rw[A9.1 hu];rfl) mL o aZ ?_);intro v w2 g1 g2 _ _;obtain⟨e1,e2,e3,e4,e5⟩:=E.O v w2 g1 g2;(obtain⟨va,vc,rfl⟩:∃a c,v=.slice a (n+1) c:=by obtain⟨g,c,h,_⟩:=sM g1 o;exact⟨_,_,h⟩);have T:Hid _:=e4;have W:Hid _:=e5;clear e4 e5 E F G;go_wp2;refine bodyPost_end (v:=.tuple #[]) (by simp[results,results43,go_sem]) rfl ⟨rfl,T.O,W.O⟩
def Rk(a b:ae)(u v:Value)(w:World)(hu:aR w u a)(s:aR w v b)(hl:a.length≤900)(hm:b.length≤900)(M:ss a)(N:ss b):Calls prog 84 #[u,v] w fun e w'=>e=.returned (.bool (tL a b))∧Below w.heap.size w w':=by
 obtain⟨ua,P,rfl⟩:=ah.val hu;obtain⟨Q,F,rfl⟩:=ah.val s;by_cases hlen:a.length=b.length
 ·have d:Hid (tL a b=lex a b a.length):=by show _=_;unfold tL;rw[V hlen]
  obtain⟨r,R⟩:∃r,Hid (tL a b=r):=⟨_,rfl⟩;rw[R.O]at d ⊢;have G:a.length≤b.length:=o;have H:b.length≤a.length:=o;have heq:(a.length:Int)=(b.length:Int):=o;have I:(((a.length:Int)) !=(b.length:Int))=false:=by simp[heq]
  have T:Hid _:=I;clear hlen heq I;obtain⟨t,Sy⟩:∃t,Hid (b.length=t):=⟨_,rfl⟩;rw[Sy.O]at G H s hm ⊢;obtain rfl:t=a.length:=o;have z:aR w (.slice Q b.length F) b:=by rw[Sy.O];exact s
  have X:Hid (a.length≤b.length):=agM;clear G H;go_enter func84,ntmps84;go_wp2_with fail;go_loopw [5] (fun i wr=>∃(k:Nat),k≤a.length∧i=.int .i64 ((k:Int)-1)∧Hid (r=lex a b k)∧Below w.heap.size w wr) (fun i _=>(intOf i+1).toNat);case atStart=>exact⟨a.length,Z _,rfl,d,aL _ _⟩
  case round=>
   obtain⟨k,hk,rfl,HK,c⟩:=hrel;cases k with
   |zero=>have A:Hid (r=false):=HK.O;clear HK;go_wp2;go_ret;exact⟨by rw[A.O];rfl,c⟩
   |succ k=>rw[show(((k+1:Nat):Int)-1)=(k:Int) by omega];(have B:k<b.length:=by have:=X.O;omega);obtain⟨g,b1,f,j,l,rfl,eL,ff,K,_,iB,gh,bC⟩:=ah.at hu k o;obtain⟨g',b2,m,n,q,oC,my,nC,L,_,AE,C,cJ⟩:=ah.at z k B;subst oC;have f1:=M k;have f2:=N k;have HKE:Hid ((a.getD k 0=b.getD k 0→r=lex a b k)∧(¬a.getD k 0=b.getD k 0→r=decide (a.getD k 0<b.getD k 0))):=T93;generalize a.getD k 0=x at*;generalize b.getD k 0=y at*;clear HK;have aT:∀W,Below w.heap.size w W→W.cell? ⟨g,k*2,none⟩=some (.bool b1)∧W.cell? ⟨g,k*2+1,none⟩=some (.slice f j l)∧W.cell? ⟨g',k*2,none⟩=some (.bool b2)∧W.cell? ⟨g',k*2+1,none⟩=some (.slice m n q):=fun W h=>⟨(h.cell (p:=⟨g,k*2,none⟩) K).trans iB,(h.cell (p:=⟨g,k*2+1,none⟩) K).trans gh,(h.cell (p:=⟨g',k*2,none⟩) L).trans AE,(h.cell (p:=⟨g',k*2+1,none⟩) L).trans C⟩;have dI:Below w.heap.size w wr.drew:=⟨c.os,c.tape,c.output,c.size,c.block⟩;have D:=bC.E dI;have E:=cJ.E dI;have x_:(k:Int)<(a.length:Int):=o;have xK:(0:Int)≤(k:Int):=o;go_wp2_with fail;refine d_ (S:=fun W=>W.cell? ⟨g,k*2,none⟩=some (.bool b1)∧W.cell? ⟨g,k*2+1,none⟩=some (.slice f j l)∧W.cell? ⟨g',k*2,none⟩=some (.bool b2)∧W.cell? ⟨g',k*2+1,none⟩=some (.slice m n q)) aw (aT _ dI) fun hS=>?_;generalize wr.drew=V0 at*;refine bh 0 24 (.slice (some ⟨g,0,none⟩) a.length P) hS ?_;simp only[tZ];refine bh 1 25 (.int .i64 (k:Int)) hS ?_;simp only[tZ];refine bh 2 26 (.pointer (some ⟨g,k*2,none⟩)) hS ?_;simp only[tZ];refine cf 3 27 (.agg #[.bool b1,.slice f j l]) rfl (fun w' cQ=>qs) hS ?_;simp only[tZ];refine bh 4 28 (.slice (some ⟨g',0,none⟩) a.length F) hS ?_;simp only[tZ];refine bh 5 29 (.int .i64 (k:Int)) hS ?_;simp only[tZ];refine bh 6 30 (.pointer (some ⟨g',k*2,none⟩)) hS ?_;simp only[tZ];refine cf 7 31 (.agg #[.bool b2,.slice m n q]) rfl (fun w' cQ=>qs) hS ?_;simp only[tZ];refine pQ 8 32 94 #[.agg #[.bool b1,.slice f j l],.agg #[.bool b2,.slice m n q]] ?_;refine(Bv _ _ x y V0 D E f1 f2).mono ?_;exact T18
 ·(have d:Hid (tL a b=decide (a.length<b.length)):=by show _=_;unfold tL;rw[U hlen]);rw[d.O];have Tk:¬(a.length:Int)=(b.length:Int):=o;clear hlen d;go_enter func84,ntmps84;go_wp2;go_ret;exact⟨rfl,aL _ _⟩
def mX:List Value→List (ae×Nat)→List Value
|c::cs,x::ps=>c:: .int .i64 (x.2:Nat)::mX cs ps
|_,_=> []
def Bm:∀(cs:List Value) (ps:List (ae×Nat)) (i:Nat) (c:Value) (x:ae×Nat),cs[i]?=some c→ps[i]?=some x→(mX cs ps)[i*2]?=some c∧(mX cs ps)[i*2+1]?=some (.int .i64 (x.2:Nat))
| [],_,i,c,x,h,_=>cT
|_::_,[],i,c,x,_,h=>cT
|d::cs,y::ps,0,c,x,h,a=>by simp at h a;subst h a;simp[mX]
|d::cs,y::ps,i+1,c,x,h,a=>by have:=Bm cs ps i c x dN (by simpa using a);rw[show(i+1)*2=i*2+2 by omega];exact this
def jX(B:Nat)(w:World)(v:Value)(ps:List (ae×Nat)):Prop:=∃cs:List Value,cs.length=ps.length∧w.ownsRow B 69 2 v ps.length (mX cs ps)∧∀(i:Nat)(c:Value)(x:ae×Nat),cs[i]?=some c→ps[i]?=some x→aR w c x.1
def jX.val{B:Nat}{w:World}{v:Value}{ps:List (ae×Nat)}(h:jX B w v ps):∃a c,v=.slice a ps.length c:=by obtain⟨cs,_,h,_⟩:=h;exact T55
def jX.E{B:Nat}{w w':World}{v:Value}{ps:List (ae×Nat)}(h:jX B w v ps)(a:Below w.heap.size w w'):jX B w' v ps:=by obtain⟨cs,b,d,e⟩:=h;exact⟨cs,b,gJ d a,fun i c x hc f=>ah.E (e i c x hc f) a⟩
def jX.at{B:Nat}{w:World}{a:Option Addr}{c:Nat}{ps:List (ae×Nat)}(h:jX B w (.slice a ps.length c) ps)(i:Nat)(hi:i<ps.length):∃g d e x,a=some ⟨g,0,none⟩∧ps.length≤c∧c≤maxLen∧g<w.heap.size∧w.cell? ⟨g,i*2,none⟩=some (.slice d x.1.length e)∧w.cell? ⟨g,i*2+1,none⟩=some (.int .i64 (x.2:Nat))∧ps[i]?=some x∧aR w (.slice d x.1.length e) x.1:=by obtain⟨cs,t,f,m⟩:=h;rcases f.2 with⟨_,u⟩|⟨g,cap,cur,k,v,n,p,q,_⟩;omega;simp only[jD,h_]at k;obtain⟨rfl,rfl⟩:=k;have j:ps[i]?=some ps[i]:=cj hi;have hc:cs[i]?=some cs[i]:=cj o;have l:=m i _ _ hc j;obtain⟨d,e,b⟩:=ah.val l;obtain⟨r,s⟩:=Bm cs ps i _ _ hc j;refine⟨g,d,e,ps[i],rfl,p,q,(gf.1 n).1,?_,?_,j,by rw[←b];exact l⟩;rw[f.cellAt (i*2) o,r,b];rw[f.cellAt (i*2+1) o,s]
def Pw{xs a:ae}{e f:Nat}(b:Bd xs e)(c:Bd a f)(k:Nat):∀n,(uT xs a k n).natAbs≤n*10^(e+f)
|0=>MG
|n+1=>by have g:=Pw b c k n;(have h:(xs.getD n 0*a.getD (k-n) 0).natAbs≤10^(e+f):=by rw[eX,iE];exact dt (jU (b n)) (jU (c (k-n))));have d:uT xs a k (n+1)=uT xs a k n+xs.getD n 0*a.getD (k-n) 0:=rfl;rw[d];have i:=vU (uT xs a k n) (xs.getD n 0*a.getD (k-n) 0);rw[Nz,Nat.one_mul];omega
def Bd.ajy{xs a:ae}{e f:Nat}(b:Bd xs e)(c:Bd a f)(g:xs.length≤30)(h:a.length≤30):Bd (cL xs a) (e+f+2):=fun k=>by have d:(cL xs a).getD k 0=pk xs a k:=ael;rw[d];by_cases i:k<60;have j:(pk xs a k).natAbs≤(k+1)*10^(e+f):=Pw b c k (k+1);have l:(k+1)*10^(e+f)≤60*10^(e+f):=kh _ o;have m:0<10^(e+f):=du J;rw[iE (10) (e+f) 2,show(10:Nat)^2=100 by decide];omega;rw[ph xs a k o];exact du J
def ZA{zs P:ae}{R:Int→Int}(tz:Tr zs)(b:zs≠ [])(c:Tr P)(d:Po R)(e:∀t,ev t zs=ev t P*R t):P.length≤zs.length:=by obtain⟨S,f,hS⟩:=d.list;have g:P≠ []:=fun h=>b (tz.zero fun t=>by rw[e,h];show(0:Int)*_=0;simp);have a:S≠ []:=fun h=>b (tz.zero fun t=>by rw[e,hS,h];show _*(0:Int)=0;simp);have i:=(m_ tz c f g a fun t=>by rw[e,hS]).2.1;have j:=bR.2 a;omega
def SF:List (ae×Nat)→Nat
| []=>0
|x::l=>x.2+SF l
def Kh(x:ae×Nat):∀l,SF (l++[x])=SF l+x.2
| []=>by simp[SF]
|y::l=>by show y.2+SF (l++[x])=y.2+SF l+x.2;rw[Kh x l];omega
def YF(ps:List (ae×Nat))(i:Nat)(t:Int):pE ps t=pE (ps.take i) t*pE (ps.drop i) t:=by rw[←Va,xT]
structure o6(zs:ae)(c:Int)(ps:List (ae×Nat))(i e:Nat)(P:ae):Prop where
 tr:Tr P
 eq:∀t,ev t P=c*pE (ps.take i) t*(match ps[i]? with|some x=>ev t x.1^e|none=>1)
 bd:Bd P (12+20*(SF (ps.take i)+e))
 len:P.length≤zs.length
def o6.start{zs:ae}{c:Int}{ps:List (ae×Nat)}(hc:c≠0)(a:c.natAbs<10^12)(b:zs≠ []):o6 zs c ps 0 0 [c] where
 tr:=fun _=>by simpa using hc
 eq:=fun t=>by
  show c+t*0=c*pE [] t*_
  cases ps[0]?<;>simp[pE]
 bd:=fun k=>by
  rw[show 12+20*(SF (ps.take 0)+0)=12 from rfl]
  cases k with
  |zero=>simpa using a
  |succ k=>simp
 len:=by have:=bR.2 b;simp;omega
def o6.step{zs:ae}{c:Int}{ps:List (ae×Nat)}{i e:Nat}{P:ae}{x:ae×Nat}(h:o6 zs c ps i e P)(b:∀t,ev t zs=c*pE ps t)(tz:Tr zs)(d:zs≠ [])(k:zs.length≤11)(a:ps[i]?=some x)(he:e<x.2)(f:Bd x.1 17)(l:x.1.length≤11):o6 zs c ps i (e+1) (cL P x.1) where
 tr:=eS _
 eq:=fun t=>by
  unfold cL
  rw[kL,uu,h.eq,a]
  show c*pE (ps.take i) t*ev t x.1^e*ev t x.1=c*pE (ps.take i) t*ev t x.1^(e+1)
  rw[bW]
  simp only[bB]
 bd:=(h.bd.ajy f (by have:=h.len;omega) o).mono o
 len:=by
  have hi:=(eQ.1 a)
  refine ZA (R:=fun t=>ev t x.1^(x.2-(e+1))*pE (ps.drop (i+1)) t) tz d (eS _) (((Po.ev _).pow _).mul (CL _)) fun t=>?_
  unfold cL
  rw[kL,uu,h.eq,a,b,YF ps i]
  have g:ps.drop i=x::ps.drop (i+1):=by rw[gV hi.1,hi.2]
  rw[g]
  show c*(pE (ps.take i) t*(ev t x.1^x.2*pE (ps.drop (i+1)) t))=c*pE (ps.take i) t*ev t x.1^e*ev t x.1*(ev t x.1^(x.2-(e+1))*pE (ps.drop (i+1)) t)
  have j:ev t x.1^x.2=ev t x.1^e*ev t x.1*ev t x.1^(x.2-(e+1)):=by
   rw[←bW,←iF,show e+1+(x.2-(e+1))=x.2 by omega]
  rw[j]
  simp only[bB,bm,gy]
def o6.next{zs:ae}{c:Int}{ps:List (ae×Nat)}{i:Nat}{P:ae}{x:ae×Nat}(h:o6 zs c ps i x.2 P)(a:ps[i]?=some x):o6 zs c ps (i+1) 0 P where
 tr:=h.tr
 eq:=fun t=>by
  rw[h.eq,a,show ps.take (i+1)=ps.take i++[x] by rw[nL,a];rfl,FK]
  show c*pE (ps.take i) t*ev t x.1^x.2=c*(pE (ps.take i) t*ev t x.1^x.2)*_
  have:∀o:Option (ae×Nat),(match o with|some y=>ev t y.1^0|none=>(1:Int))=1:=fun o=>by cases o<;>simp
  rw[this,kJ,bB]
 bd:=by
  rw[show ps.take (i+1)=ps.take i++[x] by rw[nL,a];rfl,Kh]
  exact h.bd
 len:=h.len
def o6.ends{zs:ae}{c:Int}{ps:List (ae×Nat)}{P:ae}(h:o6 zs c ps ps.length 0 P)(a:∀t,ev t zs=c*pE ps t)(tz:Tr zs):P=zs:=Pp.ext h.tr tz fun t=>by rw[h.eq,a,cY,dF (Z _)];simp
def ahA(zs:ae)(c:Int)(ps:List (ae×Nat))(u n v:Value)(w:World)(hu:aR w u zs)(hn:cr w n c)(hv:jX 0 w v ps)(q:Fac zs c ps)(D:Tr zs)(aF:zs≠ [])(lz:zs.length≤11)(bz:Bd zs 12)(hc:c.natAbs<10^12)(hB:∀x,x∈ps→x.1.length≤11∧Bd x.1 17)(hlp:ps.length≤10000)(HP:∀x,x∈ps→∀(W:World)(y:Value),aR W y x.1→Calls prog 86 #[y] W fun e w'=>∃b,e=.returned (.tuple #[.bool false,.bool b])∧Below W.heap.size W w'):Calls prog 46 #[u,n,v] w fun e w'=>e=.returned (.bool true)∧Below w.heap.size w w':=by
 have iB:c≠0:=fun h0=>aF (D.zero fun t=>by rw[q.eq,h0];simp);have H0:Hid (o6 zs c ps 0 0 [c]):=o6.start iB hc aF;have art:=q.Ef D aF;have ie:Hid (∀(i e:Nat)(P:ae)(x:ae×Nat),o6 zs c ps i e P→ps[i]?=some x→e<x.2→o6 zs c ps i (e+1) (cL P x.1)):=fun i e P x h E he=>h.step q.eq D aF lz E he (hB x (cN E)).2 (hB x (cN E)).1;have HEND:Hid (∀P,o6 zs c ps ps.length 0 P→P=zs):=fun P h=>h.ends q.eq D;have aol:Hid _:=q.each;have ats:Hid _:=NI.1 q.Wp;have HCN:Hid (∀i,SF (ps.take i)≤100):=fun i=>by
  have X:∀l:List (ae×Nat),(∀x,x∈l→2≤x.1.length)→SF l≤It l:=by
   intro l;induction l with
   |nil=>intro _;simp[SF,It]
   |cons x l ih=>intro h;have h2:=h x (dh ..);have h3:=ih fun y m=>h y (eh _ m);show x.2+SF l≤(x.1.length-1)*x.2+It l;have h4:1*x.2≤(x.1.length-1)*x.2:=kh _ o;omega
  have h2:=X (ps.take i) fun x E=>(q.each x (s8 E)).2.1.len (q.each x (s8 E)).1;have h3:=ah8 ps i;omega
 have asC:Hid (∀x,x∈ps→x.2≤11):=fun x E=>by
  have X:∀l:List (ae×Nat),(∀y,y∈l→2≤y.1.length)→∀y,y∈l→y.2≤It l:=by
   intro l;induction l with
   |nil=>intro _ y m;cases m
   |cons z l ih=>intro h y m;show y.2≤(z.1.length-1)*z.2+It l;rcases ep.1 m with rfl|m;have h2:=h y (dh ..);have h4:1*y.2≤(y.1.length-1)*y.2:=kh _ o;omega;have:=ih (fun z D=>h z (eh _ D)) y m;omega
  have:=X ps (fun y m=>(q.each y m).2.1.len (q.each y m).1) x E;omega
 have HBB:Hid _:=hB;have HPP:Hid _:=HP;obtain⟨ua,uc,rfl⟩:=ah.val hu;obtain⟨va,vc,rfl⟩:=hv.val;obtain⟨b,na,nn,nc,_,rfl,_,_⟩:=id hn.open;clear HP hB q art;go_enter func46,ntmps46;go_wp2_with fail;obtain⟨W1,AA⟩:∃W1,Hid (w.alloc (.cells #[.bool b,.slice na nn nc] 74)=W1):=⟨_,rfl⟩;have ay:=(aI AA.O).1;have U5:W1.heap.size=w.heap.size+1:=UA;rw[AA.O,←U5];obtain⟨W2,Ie⟩:∃W2,Hid (W1.alloc (.cells #[.bool b,.slice na nn nc] 74)=W2):=⟨_,rfl⟩;obtain⟨aC,At⟩:=jW Ie.O (hn.E ay);rw[Ie.O];have cR:=ay.tr aC;clear AA Ie U5 hn;generalize W1.heap.size=k1 at*;go_loopw [17,7] (fun k p wr=>∃(i:Nat)(P:ae),k=.int .i64 (i:Nat)∧i≤ps.length∧aR wr p P∧Hid (o6 zs c ps i 0 P)∧Below w.heap.size w wr) (fun k _ _=>ps.length-(intOf k).toNat);case atStart=>exact⟨0,[c],rfl,o,At,H0,cR⟩
 case round=>
  clear At H0 aC;obtain⟨i,P,rfl,hi,hP,HO,af⟩:=hrel;obtain⟨pa,pc,rfl⟩:=ah.val hP;by_cases aM:i<ps.length
  ·obtain⟨F,d,f,x,hga,eL,ff,Jz,q0,q1,KV,hxI⟩:=(hv.E af).at i aM;subst hga;have JQ:=cN KV;obtain⟨px,ix,e1⟩:=aol.O x JQ;obtain⟨l11,G⟩:=HBB.O x JQ;have l2:=ix.len px;have hii:(i:Int)<(ps.length:Int):=o;have So:=HPP.O x JQ;have So:Hid _:=So;have aws:Hid (∀(e:Nat)(P:ae),o6 zs c ps i e P→e<x.2→o6 zs c ps i (e+1) (cL P x.1)):=fun e P h he=>ie.O i e P x h KV he;have avp:Hid (∀P:ae,o6 zs c ps i x.2 P→o6 zs c ps (i+1) 0 P):=fun P h=>h.next KV;(have HRS:Hid (∀(j:Nat)(y:ae×Nat),i=j+1→ps[j]?=some y→tL y.1 x.1=true):=fun j y hj m=>by have X:=eQ.1 m;have h2:=eQ.1 KV;have:=ats.O j i X.1 h2.1 o;rwa[X.2,h2.2]at this);have fX:ss x.1:=G.k_ o;have auz:Hid (x.2≤11):=asC.O x JQ;have A:Hid _:=px;have arQ:Hid _:=G;clear px ix KV JQ G;go_wp2_with fail;obtain⟨g,Si⟩:∃g,Hid (wr.alloc (Obj.cells #[.slice d x.1.length f,.int IntKind.i64 (x.2:Nat)] 69)=g):=⟨_,rfl⟩;(have dL:Below wr.heap.size wr g:=by rw[←Si.O];exact(aL _ _).alloc (Z _) _);(have H:g.cell? ⟨wr.heap.size,0,none⟩=some (.slice d x.1.length f)∧g.cell? ⟨wr.heap.size,1,none⟩=some (.int .i64 (x.2:Nat)):=by(have hh:g.heap[wr.heap.size]?=some (.cells #[Value.slice d x.1.length f,Value.int IntKind.i64 (x.2:Nat)] 69 (0,0)):=by rw[←Si.O];exact fL wr _);constructor<;>simp[World.cell?,hh]);(have hk7:wr.heap.size<g.heap.size:=by rw[←Si.O];simp);rw[Si.O];have EC:=af.tr dL;have hP7:=ah.E hP dL;have I:=ah.E hxI dL;clear Si dL q0 q1 hP hxI;generalize wr.heap.size=a at*;have HSV:Hid (∀V,Below g.heap.size g V→V.cell? ⟨a,0,none⟩=some (.slice d x.1.length f)∧V.cell? ⟨a,1,none⟩=some (.int .i64 (x.2:Nat))):=fun V h=>⟨(h.cell (p:=⟨a,0,none⟩) hk7).trans H.1,(h.cell (p:=⟨a,1,none⟩) hk7).trans H.2⟩;clear H;have hE1:¬(x.2:Int)<1:=o;have aGM:decide ((x.2:Int)<1)=false:=fu hE1;have oN:¬(x.1.length:Int)<2:=o;have aFY:decide ((x.1.length:Int)<2)=false:=fu oN;go_cut [46] (fun s46 wc=>s46=.bool false∧Below g.heap.size g wc);case first=>
    have s:Below g.heap.size g g.drew:=⟨rfl,rfl,rfl,Z _,fun _ _=>rfl⟩;cases i with
    |zero=>rw[show((0:Nat):Int)=(0:Int)from rfl];refine fi aw aw ?_;refine bI (v:=.pointer (some ⟨a,1,none⟩)) rfl (fun w' cQ=>a_) ?_;simp only[tZ];refine bI (v:=.int .i64 (x.2:Nat)) rfl (fun w' cQ=>aef) ?_;simp only[tZ];refine bI (v:=.bool false) rfl (fun w' cQ=>a_) ?_;simp only[tZ];refine bI (v:=.bool false) rfl (fun w' cQ=>a_) ?_;simp only[tZ];refine bI (v:=.pointer (some ⟨a,0,none⟩)) rfl (fun w' cQ=>a_) ?_;simp only[tZ];refine bI (v:=.slice d x.1.length f) rfl (fun w' cQ=>aef) ?_;simp only[tZ];refine bI (v:=.int .i64 (x.1.length:Nat)) rfl (fun w' cQ=>a_) ?_;simp only[tZ];refine bI (v:=.bool false) rfl (fun w' cQ=>a_) ?_;simp only[tZ];refine bI (v:=.bool false) rfl (fun w' cQ=>a_) ?_;simp only[tZ];refine bI (v:=.bool false) rfl (fun w' cQ=>a_) ?_;simp only[tZ];refine bI (v:=.int .i64 0) rfl (fun w' cQ=>a_) ?_;simp only[tZ];refine bI (v:=.bool false) rfl (fun w' cQ=>a_) ?_;simp only[tZ];refine qZ (v:=.bool false) 10 12 34 rfl (fun _ _=>rfl) rfl rfl ?_ ?_;intro o' Up;simp at Up;rcases Up with rfl|rfl|rfl|rfl|rfl|rfl|rfl|rfl|rfl|rfl<;>exact⟨rfl,Y⟩;simp only[Hv,lJ,C1,tu,vW,L_,Act.put,F_,BT,NW];refine bI (v:=.bool false) rfl (fun w' cQ=>a_) ?_;simp only[tZ];refine bI (v:=.bool false) rfl (fun w' cQ=>a_) ?_;simp only[tZ];refine FG ?_;intro w8 iT;go_wp2;go_meet;case rel=>exact⟨rfl,iT⟩
    |succ j=>obtain⟨gj,ya,yc,y,hgj,_,_,akU,z0,z1,K,hyI⟩:=(hv.E EC).at j o;(have oC:F=gj:=by simpa using hgj);subst oC;have hr:=HRS.O j y rfl K;obtain⟨aBy,arW⟩:=HBB.O y (cN K);have hRi:=Rk y.1 x.1 _ _ g.drew (ah.E hyI s) (ah.E I s) o o (arW.k_ o) fX;rw[hr]at hRi;have vx:(j:Int)<(ps.length:Int):=o;have Fg:(0:Int)<(j:Int)+1:=o;have hwj:IntKind.i64.wrap (j:Int)=(j:Int):=iy;rw[show(((j+1:Nat)):Int)=(j:Int)+1 by omega];obtain⟨y0,y1⟩:=HSV.O _ s;refine d_ (S:=fun V=>V.cell? ⟨a,0,none⟩=some (.slice d x.1.length f)∧V.cell? ⟨a,1,none⟩=some (.int .i64 (x.2:Nat))∧V.cell? ⟨F,j*2,none⟩=some (.slice ya y.1.length yc)) aw ⟨y0,y1,(s.cell (p:=⟨F,j*2,none⟩) akU).trans z0⟩ fun hS=>?_;have ar_:∀V,Below g.heap.size g V→V.cell? ⟨a,0,none⟩=some (.slice d x.1.length f)∧V.cell? ⟨a,1,none⟩=some (.int .i64 (x.2:Nat))∧V.cell? ⟨F,j*2,none⟩=some (.slice ya y.1.length yc):=fun V h=>⟨(HSV.O V h).1,(HSV.O V h).2,(h.cell (p:=⟨F,j*2,none⟩) akU).trans z0⟩;clear y0 y1 z1 hgj K hyI;generalize g.drew=V0 at*;refine bh 0 22 (.pointer (some ⟨a,1,none⟩)) hS ?_;simp only[tZ];refine cf 1 23 (.int .i64 (x.2:Nat)) rfl (fun w' cQ=>wG) hS ?_;simp only[tZ];refine cf 2 24 (.bool false) rfl (fun _ _=>a_) hS ?_;simp only[tZ];refine bh 3 25 (.bool false) hS ?_;simp only[tZ];refine bh 4 26 (.pointer (some ⟨a,0,none⟩)) hS ?_;simp only[tZ];refine cf 5 27 (.slice d x.1.length f) rfl (fun w' cQ=>wG) hS ?_;simp only[tZ];refine cf 6 28 (.int .i64 (x.1.length:Nat)) rfl (fun _ _=>a_) hS ?_;simp only[tZ];refine cf 7 29 (.bool false) rfl (fun _ _=>a_) hS ?_;simp only[tZ];refine cf 8 30 (.bool false) rfl (fun _ _=>a_) hS ?_;simp only[tZ];refine bh 9 31 (.bool false) hS ?_;simp only[tZ];refine bh 10 32 (.int .i64 ((j:Int)+1)) hS ?_;simp only[tZ];refine cf 11 33 (.bool true) rfl (fun _ _=>a_) hS ?_;simp only[tZ];refine bh 12 34 (.bool true) hS ?_;simp only[tZ];refine bh 13 35 (.slice (some ⟨F,0,none⟩) ps.length vc) hS ?_;simp only[tZ];refine bh 14 36 (.int .i64 ((j:Int)+1)) hS ?_;simp only[tZ];refine cf 15 37 (.int .i64 (j:Int)) rfl (fun _ _=>a_) hS ?_;simp only[tZ];refine bh 16 38 (.pointer (some ⟨F,j*2,none⟩)) hS ?_;simp only[tZ];refine bh 17 39 (.pointer (some ⟨F,j*2,none⟩)) hS ?_;simp only[tZ];refine cf 18 40 (.slice ya y.1.length yc) rfl (fun w' cQ=>wG) hS ?_;simp only[tZ];refine bh 19 41 (.pointer (some ⟨a,0,none⟩)) hS ?_;simp only[tZ];refine cf 20 42 (.slice d x.1.length f) rfl (fun w' cQ=>wG) hS ?_;simp only[tZ];refine pQ 21 43 84 #[.slice ya y.1.length yc,.slice d x.1.length f] ?_;refine hRi.mono ?_;rintro en w8 ⟨rfl,iT⟩;have L:=s.tr iT;have hS:=ar_ _ L;refine⟨_,rfl,hS,?_⟩;simp only[tZ];refine r7 22 44 (w':=w8) (.bool false) rfl rfl aw rfl a_ hS ?_;simp only[tZ];refine r7 23 45 (w':=w8) (.bool false) rfl rfl aw rfl a_ hS ?_;simp only[tZ];refine r7 24 46 (w':=w8) (.bool false) rfl rfl aw rfl a_ hS ?_;simp only[tZ];refine eH aw ?_ _;go_wp2;go_meet;case rel=>exact⟨rfl,L⟩
   case rest=>obtain⟨rfl,qi⟩:=hcut;have ace:=EC.tr qi;have B:=ah.E I qi;have hPc:=ah.E hP7 qi;have TF:Hid (∀V,Below wc.heap.size wc V→V.cell? ⟨a,0,none⟩=some (.slice d x.1.length f)∧V.cell? ⟨a,1,none⟩=some (.int .i64 (x.2:Nat))):=fun V h=>HSV.O V (qi.tr h);have s:Below wc.heap.size wc wc.drew:=⟨rfl,rfl,rfl,Z _,fun _ _=>rfl⟩;have M:=uf x.1 _ wc.drew (ah.E B s) o fX A.O.tr;rw[A.O.pr]at M;clear HSV EC hP7 I qi;go_wp2_with fail;refine d_ (S:=fun V=>V.cell? ⟨a,0,none⟩=some (.slice d x.1.length f)∧V.cell? ⟨a,1,none⟩=some (.int .i64 (x.2:Nat))) aw (TF.O _ s) fun hS=>?_;generalize wc.drew=V0 at*;refine bh 0 47 (.pointer (some ⟨a,0,none⟩)) hS ?_;simp only[tZ];refine cf 1 48 (.slice d x.1.length f) rfl (fun w' cQ=>lD) hS ?_;simp only[tZ];refine bh 2 49 (.pointer (some ⟨a,0,none⟩)) hS ?_;simp only[tZ];refine cf 3 50 (.slice d x.1.length f) rfl (fun w' cQ=>lD) hS ?_;simp only[tZ];refine pQ 4 51 73 #[.slice d x.1.length f] ?_;refine M.mono ?_;rintro en w8 ⟨x8,rfl,qG,iT⟩;have L:=s.tr iT;obtain⟨ma,mc,rfl⟩:=ah.val qG;have hS:=TF.O _ L;refine⟨_,rfl,hS,?_⟩;simp only[tZ];have N:=Ff x.1 x.1 (.slice d x.1.length f) (.slice ma x.1.length mc) w8 (ah.E B L) qG o o fX fX A.O.tr A.O.tr;rw[fR rfl]at N;refine pQ 5 52 85 #[.slice d x.1.length f,.slice ma x.1.length mc] ?_;refine N.mono ?_;rintro en w9 ⟨rfl,lZ⟩;have Nh:=L.tr lZ;have hS:=TF.O _ Nh;refine⟨_,rfl,hS,?_⟩;simp only[tZ];refine r7 6 53 (w':=w9) (.bool false) rfl rfl aw rfl a_ hS ?_;simp only[tZ];refine eH aw ?_ _;obtain⟨y0,y1⟩:=hS;have Q:=ah.E B Nh;have amD:=So.O w9 _ Q;clear M qG N s iT L lZ;go_wp2_with fail;refine amD.mono ?_;rintro en uP ⟨bb,rfl,fE⟩;have R:=Nh.tr fE;have aq9:=ah.E Q fE;have Qg:=ah.E hPc R;have af9:=ace.tr R;have aov:Hid (∀V,Below uP.heap.size uP V→V.cell? ⟨a,0,none⟩=some (.slice d x.1.length f)∧V.cell? ⟨a,1,none⟩=some (.int .i64 (x.2:Nat))):=fun V h=>TF.O V (R.tr h);clear y0 y1 amD TF Nh fE Q hPc B ace;go_wp2_with fail;go_loopw [12,7] (fun k p wr=>∃(e:Nat)(P:ae),k=.int .i64 (e:Nat)∧e≤x.2∧aR wr p P∧Hid (o6 zs c ps i e P)∧Below uP.heap.size uP wr) (fun k _ _=>x.2-(intOf k).toNat);(case atStart=>exact⟨0,P,rfl,o,Qg,HO,aL _ _⟩);case round=>clear Qg HO;obtain⟨e,P',rfl,he,T,r,C⟩:=hrel;obtain⟨pa',pc',rfl⟩:=ah.val T;obtain⟨y0,y1⟩:=aov.O _ C;by_cases hel:e<x.2;(·(have hee:(e:Int)<(x.2:Int):=by omega);have rU:=r.O.len;have aEp:(P'.length:Int)≤(zs.length:Int):=o;have hbP:=r.O.bd;have hcn:=HCN.O i;have aC9:x.2≤11:=auz.O;have HN:Hid _:=aws.O e P' r.O hel;have hM:=jy P' x.1 3000 17 _ _ wr T (ah.E aq9 C) o o (hbP.mono o) arQ.O o;clear hbP r;go_wp2_with fail;refine hM.mono ?_;rintro en Ib ⟨x11,rfl,yx,jG⟩;have ami:=C.tr jG;go_wp2;go_roundw;(case rel=>exact⟨e+1,_,by go_num,o,yx,HN,ami⟩);case measure=>simp[intOf];omega);·(obtain rfl:e=x.2:=by omega);have HN:Hid _:=avp.O P' r.O;go_wp2;go_roundw;(case rel=>exact⟨i+1,P',by go_num,o,T,HN,af9.tr C⟩);case measure=>simp[intOf];omega
  ·(obtain rfl:i=ps.length:=by omega);have hE:=HEND.O P HO.O;subst hE;have hS:=Ff P P (.slice pa P.length pc) (.slice ua P.length uc) wr hP (ah.E hu af) o o (bz.k_ o) (bz.k_ o) D D;rw[fR rfl]at hS;go_wp2_with fail;refine hS.mono ?_;rintro e w3 ⟨rfl,aK⟩;go_wp2;go_ret;exact⟨rfl,af.tr aK⟩
end Go.Proofs.YtldcjkhbiffdoaaGreatDoor
