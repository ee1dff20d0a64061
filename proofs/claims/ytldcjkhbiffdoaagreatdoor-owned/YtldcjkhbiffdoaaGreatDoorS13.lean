import Derived.Test.YtldcjkhbiffdoaaGreatDoorS11
set_option maxRecDepth 100000
set_option maxHeartbeats 40000000
set_option linter.unusedSimpArgs false
set_option linter.defProp false
namespace Go.Proofs.YtldcjkhbiffdoaaGreatDoor
open Go.RowKit Go.Proofs.Tryz
def sP:List ((Int→Int)×(Int→Int))→Int→Int
| []=>fun _=>0
|x::L=>fun t=>x.2 t*pA (L.map Prod.fst) t+x.1 t*sP L t
def Js:∀L:List ((Int→Int)×(Int→Int)),(∀x,x∈L→Po x.1∧Po x.2)→Po (sP L)∧Po (pA (L.map Prod.fst))
| [],_=>⟨Po.zero,Po.const 1⟩
|x::L,h=>by obtain⟨c,a⟩:=Js L fun y d=>h y (eh _ d);obtain⟨b,e⟩:=h x (dh ..);exact⟨(e.mul a).add (b.mul c),b.mul a⟩
def O5(M:Int):∀L:List ((Int→Int)×(Int→Int)),(∀x,x∈L→Po x.1∧Po x.2)→∃Q,Po Q∧∀t,pA (L.map fun x t=>x.1 t+M*x.2 t) t=pA (L.map Prod.fst) t+M*sP L t+M*M*Q t
| [],_=>⟨fun _=>0,Po.zero,fun t=>by simp[pA,sP]⟩
|x::L,h=>by have a:∀y,y∈L→Po y.1∧Po y.2:=fun y d=>h y (eh _ d);obtain⟨Q,b,e⟩:=O5 M L a;obtain⟨f,c⟩:=h x (dh ..);obtain⟨g,i⟩:=Js L a;refine⟨fun t=>x.1 t*Q t+x.2 t*sP L t+M*(x.2 t*Q t),((f.mul b).add (c.mul g)).add ((c.mul b).aO M),fun t=>?_⟩;show(x.1 t+M*x.2 t)*pA (L.map fun x t=>x.1 t+M*x.2 t) t=x.1 t*pA (L.map Prod.fst) t+M*(x.2 t*pA (L.map Prod.fst) t+x.1 t*sP L t)+M*M*(x.1 t*Q t+x.2 t*sP L t+M*(x.2 t*Q t));rw[e];simp only[rZ];omega
def Vu:∀(a b:List ((Int→Int)×(Int→Int))) (t:Int),sP (a++b) t=sP a t*pA (b.map Prod.fst) t+pA (a.map Prod.fst) t*sP b t
| [],b,t=>by simp[sP,pA]
|x::a,b,t=>by show x.2 t*pA ((a++b).map Prod.fst) t+x.1 t*sP (a++b) t=(x.2 t*pA (a.map Prod.fst) t+x.1 t*sP a t)*pA (b.map Prod.fst) t+x.1 t*pA (a.map Prod.fst) t*sP b t;rw[Vu a b t,rp,lQ];simp only[rZ];omega
def KL{m:Int}:∀(L M:List ((Int→Int)×(Int→Int))),L.length=M.length→(∀x,x∈L→Po x.1∧Po x.2)→(∀x,x∈M→Po x.1∧Po x.2)→(∀(i:Nat) (x y:(Int→Int)×(Int→Int)),L[i]?=some x→M[i]?=some y→Zm m (fun t=>x.1 t-y.1 t)∧∀t,x.2 t=y.2 t)→Zm m (fun t=>pA (L.map Prod.fst) t-pA (M.map Prod.fst) t)∧Zm m (fun t=>sP L t-sP M t)
| [],[],_,_,_,_=>⟨Zm.aq _ fun t=>Y,Zm.aq _ fun t=>Y⟩
| [],y::M,h,_,_,_=>cT
|x::L,[],h,_,_,_=>cT
|x::L,y::M,h,e,k,he=>by have l:∀z,z∈L→Po z.1∧Po z.2:=fun z d=>e z (eh _ d);have c:∀z,z∈M→Po z.1∧Po z.2:=fun z d=>k z (eh _ d);obtain⟨f,n⟩:=KL L M dN l c fun i a b p q=>he (i+1) a b (by simpa using p) (by simpa using q);obtain⟨g,r⟩:=he 0 x y rfl rfl;obtain⟨j,s⟩:=e x (dh ..);obtain⟨m1,m2⟩:=Js M c;refine⟨((f.mul j).add (g.mul m2)).congr fun t=>?_,(((f.mul s).add (n.mul j)).add (g.mul m1)).congr fun t=>?_⟩;show x.1 t*pA (L.map Prod.fst) t-y.1 t*pA (M.map Prod.fst) t=x.1 t*(pA (L.map Prod.fst) t-pA (M.map Prod.fst) t)+pA (M.map Prod.fst) t*(x.1 t-y.1 t);simp only[rZ];omega;show x.2 t*pA (L.map Prod.fst) t+x.1 t*sP L t-(y.2 t*pA (M.map Prod.fst) t+y.1 t*sP M t)=x.2 t*(pA (L.map Prod.fst) t-pA (M.map Prod.fst) t)+x.1 t*(sP L t-sP M t)+sP M t*(x.1 t-y.1 t);rw[←r];simp only[rZ];omega
def V_:∀L:List ((Int→Int)×(Int→Int)),(∀x,x∈L→∃d,Ld d 1 x.1∧Pl d x.2)→∃N,Ld N 1 (pA (L.map Prod.fst))∧Pl N (sP L)
| [],_=>⟨0,Ld.const 1,Pl.zero 0⟩
|x::L,h=>by obtain⟨N,a,c⟩:=V_ L fun y e=>h y (eh _ e);obtain⟨d,b,f⟩:=h x (dh ..);refine⟨d+N,?_,?_⟩;have:=b.mul a;rwa[lC]at this;have g:Pl (d+N) (fun t=>x.2 t*pA (L.map Prod.fst) t):=f.mul a.pl;have i:Pl (N+d) (fun t=>sP L t*x.1 t):=c.mul b.pl;exact g.add ((i.mono o).congr fun t=>bm _ _)
def ku.right{m:Int}{a b e:Int→Int}(he:Po e)(h:ku m a (fun t=>b t*e t)):ku m a b:=by obtain⟨u,v,c,d,f,g,i⟩:=h;exact⟨u,fun t=>v t*e t,c,d,f.mul he,g,i.congr fun t=>by show u t*a t+v t*e t*b t-c=u t*a t+v t*(b t*e t)-c;rw[bB,bm (e t)]⟩
def crt{p:Nat}(i:0<p)(j:cq (p:Int)){f D:Int→Int}{c:Int}{U:List (Int→Int)}(k:Sq p f)(l:∀u,u∈U→Po u)(m:Zm p (fun t=>f t-c*pA U t))(n:Po D)(h:∀u,u∈U→Di p u D):Di p (pA U) D:=by
 have:∀(A B:List (Int→Int)),U=A++B→Di p (pA A) D→Di p (pA (A++B)) D:=by
  intro A B;induction B generalizing A with
  |nil=>intro _ g;rwa[tU]
  |cons u B q=>intro b g;have d:∀x,x∈A++(u::B)→Po x:=fun x hx=>l x (by rw[b];exact hx);have e:Po (pA A):=ke A fun x hx=>d x LD;have a:Po (pA B):=ke B fun x hx=>d x LD;have hu:Po u:=d u Y;have r:ku p (pA A) u:=ku.right a (k.PG (c:=c) e (hu.mul a) (m.congr fun t=>by rw[b,lQ];rfl));have v:=Di.both i j hu r g (h u (by rw[b];simp));have w:=q (A++[u]) (by rw[b];simp) (by obtain⟨s,y,q2⟩:=v;exact⟨s,y,q2.congr fun t=>by rw[oI]⟩);rwa[yC]at w
 exact this [] U rfl (Di.of_eq n fun t=>Fz)
def Di.Qb{p n:Nat}(b:cq (p:Int)){A D:Int→Int}(c:Dm p n A)(d:Pl n D)(h:Di p A D):Zm p D:=by rcases Zm.jS (m:=p) d with a|⟨e,he,a⟩;exact a;obtain⟨_,_,j,_,_,f,_⟩:=(h.dv b).Ef b c a;omega
def xM{p n:Nat}(B:0<p)(i:cq (p:Int)){f e:Int→Int}{c:Int}(C:Sq p f)(D:Dm p n f)(hc:¬(p:Int)∣c)(he:Pl n e){L:List ((Int→Int)×(Int→Int))}(j:∀x,x∈L→∃d,Ld d 1 x.1∧Pl d x.2)(l:Zm p (fun t=>f t-c*pA (L.map Prod.fst) t))(m:∀x,x∈L→∃O k,Po O∧Po k∧Zm p (fun t=>f t-O t*x.1 t)∧Di p x.1 (fun t=>k t*O t-1)∧Di p x.1 (fun t=>e t*k t-x.2 t)):Zm p (fun t=>c*sP L t-e t):=by
 obtain⟨N,z,E⟩:=V_ L j;have F:N=n:=by have G:Dm p N (fun t=>c*pA (L.map Prod.fst) t):=(Dm.ig z i.2).aO i hc;exact(G.alike l).uniq D
 subst F;have g:∀x,x∈L→Po x.1∧Po x.2:=fun x h=>by obtain⟨d,q,q2⟩:=j x h;exact⟨q.po,q2.po⟩
 have A:Pl N (fun t=>c*sP L t-e t):=(E.aO c).sub he;refine Di.Qb i (Dm.ig z i.2) A (crt B i C (fun u hu=>?_) l A.po fun u hu=>?_);obtain⟨x,h,rfl⟩:=ko.1 hu;exact(g x h).1;obtain⟨x,h,rfl⟩:=ko.1 hu;obtain⟨O,k,g1,g2,g3,g4,g5⟩:=m x h;obtain⟨b,a,rfl⟩:=FX h;obtain⟨H,I⟩:=g x h;have m1:=Js b fun y r=>g y (by simp[r]);have m2:=Js a fun y r=>g y (by simp[r]);have v:Po (fun t=>pA (b.map Prod.fst) t*pA (a.map Prod.fst) t):=m1.2.mul m2.2;have K:Zm p (fun t=>O t-c*(pA (b.map Prod.fst) t*pA (a.map Prod.fst) t)):=by(have M:Zm p (fun t=>x.1 t*(O t-c*(pA (b.map Prod.fst) t*pA (a.map Prod.fst) t))):=(l.sub g3).congr fun t=>by rw[rp,lQ];show x.1 t*(O t-c*(pA (b.map Prod.fst) t*pA (a.map Prod.fst) t))=f t-c*(pA (b.map Prod.fst) t*(x.1 t*pA (a.map Prod.fst) t))-(f t-O t*x.1 t);simp only[rZ];omega);refine(Zm.or i H (g1.sub (v.aO c)) M).resolve_left fun w=>?_;obtain⟨d,q,_⟩:=j x h;have:=w.lead q;exact i.2 this
 have a1:Di p x.1 (fun t=>c*sP (b++x::a) t-x.2 t*(c*(pA (b.map Prod.fst) t*pA (a.map Prod.fst) t))):=by refine Di.of_eq (s:=fun t=>c*(sP b t*pA (a.map Prod.fst) t+pA (b.map Prod.fst) t*sP a t)) (((m1.1.mul m2.2).add (m1.2.mul m2.1)).aO c) fun t=>?_;rw[Vu];show c*(sP b t*(x.1 t*pA (a.map Prod.fst) t)+pA (b.map Prod.fst) t*(x.2 t*pA (a.map Prod.fst) t+x.1 t*sP a t))-x.2 t*(c*(pA (b.map Prod.fst) t*pA (a.map Prod.fst) t))=x.1 t*(c*(sP b t*pA (a.map Prod.fst) t+pA (b.map Prod.fst) t*sP a t));simp only[rZ];omega
 refine((a1.sub (g5.mul g1)).add (g4.mul he.po)).alike ((K.mul I).neg.congr fun t=>?_);show c*sP (b++x::a) t-e t-(c*sP (b++x::a) t-x.2 t*(c*(pA (b.map Prod.fst) t*pA (a.map Prod.fst) t))-O t*(e t*k t-x.2 t)+e t*(k t*O t-1))=-(x.2 t*(O t-c*(pA (b.map Prod.fst) t*pA (a.map Prod.fst) t)));simp only[rZ];omega
def N4{p k:Nat}{f ms mw:Int→Int}{c:Int}(w:1≤k){L:List ((Int→Int)×(Int→Int))}(h:∀x,x∈L→Po x.1∧Po x.2)(hex:∀t,f t-c*pA (L.map Prod.fst) t=(p:Int)^k*mw t)(a:Zm p (fun t=>ms t-mw t))(b:Zm p (fun t=>c*sP L t-ms t)):Zm ((p:Int)^(k+1)) (fun t=>f t-c*pA (L.map fun x t=>x.1 t+(p:Int)^k*x.2 t) t):=by
 obtain⟨Q,i,l⟩:=O5 ((p:Int)^k) L h;obtain⟨g,m,n⟩:=b.add a;obtain⟨j,rfl⟩:∃j,k=j+1:=⟨k-1,o⟩;refine⟨fun t=>-g t-c*((p:Int)^j*Q t),m.neg.sub ((i.aO ((p:Int)^j)).aO c),fun t=>?_⟩;have y:c*sP L t-ms t+(ms t-mw t)=p*g t:=n t;have d:=hex t;show f t-c*pA (L.map fun x t=>x.1 t+(p:Int)^(j+1)*x.2 t) t=(p:Int)^(j+1+1)*(-g t-c*((p:Int)^j*Q t));rw[l];have r:(p:Int)^(j+1+1)=(p:Int)^(j+1)*p:=bW ..;have s:(p:Int)^(j+1)=(p:Int)^j*p:=bW ..;have e:(p:Int)^(j+1)*mw t=(p:Int)^(j+1)*(c*sP L t-p*g t):=by congr 1;omega
 have u:(p:Int)^(j+1)*(p:Int)^(j+1)*Q t=(p:Int)^(j+1)*p*((p:Int)^j*Q t):=by(conv=>lhs;rw[bB];rhs;rw[s]);simp only[rZ]
 rw[r,u];revert d e;generalize(p:Int)^(j+1)=M;generalize(p:Int)^j*Q t=q;generalize pA (L.map Prod.fst) t=P;intro d e;rw[e]at d;have v:f t=c*P+M*(c*sP L t-p*g t):=o;rw[v];simp only[rZ];omega
def up(l r:ae)(M:Int):ae:=eg (max l.length (List.replicate 0 0++r.map fun x=>x*M).length) fun k=>l.getD k 0+(List.replicate 0 0++r.map fun x=>x*M).getD k 0
def FF(l r:ae)(M:Int)(k:Nat):(up l r M).getD k 0=l.getD k 0+M*r.getD k 0:=by(have h:(List.replicate 0 0++r.map fun x=>x*M).getD k 0=M*r.getD k 0:=by rw[List.replicate_zero,Vj,show(fun x:Int=>x*M)=fun x=>M*x from funext fun x=>bm x M,aS]);unfold up;rw[cB,h];split;rfl;·next a=>have b:(List.replicate 0 0++r.map fun x=>x*M).length=r.length:=Y;rw[au (show l.length≤k by omega),au (show r.length≤k by omega)];simp
def acQ(l r:ae)(M t:Int):ev t (up l r M)=ev t l+M*ev t r:=by rw[←bs,←dM];exact eB (fun k=>by rw[FF,cG,aS]) t
def ag1{l r:ae}(M:Int)(h:r.length≤l.length):(up l r M).length=l.length:=by unfold up;rw[eJ];have:(List.replicate 0 0++r.map fun x=>x*M).length=r.length:=Y;omega
structure E5(p:Nat)(F:ae)(U:List (ae))(k:Nat)(Λ:List (ae)):Prop where
 one:1≤k
 len:Λ.length=U.length
 Sd:∀(i:Nat)(l u:ae),Λ[i]?=some l→U[i]?=some u→l.length=u.length∧lead l=1∧Zm p (fun t=>ev t l-ev t u)∧∀j,0≤l.getD j 0∧l.getD j 0<(p:Int)^k
 eq:Zm ((p:Int)^k) (fun t=>ev t F-lead F*pA (fs Λ) t)
def E5.start{p n:Nat}{F:ae}{U:List (ae)}(h:AN p (fun t=>ev t F) (lead F) n U):E5 p F U 1 U where
 one:=Z _
 len:=rfl
 Sd:=fun i l u a hu=>by
  obtain rfl:l=u:=dw (a.symm.trans hu)
  have:=h.mem l (cN a)
  exact⟨rfl,this.1.l1,Zm.aq _ fun t=>o,fun j=>by rw[lG];exact this.1.eT.1 j⟩
 eq:=by rw[lG];exact h.eq
def FW(Λ R:List (ae))(M:Int):List (ae):=List.zipWith (fun l r=>up l r M) Λ R
def agQ{Λ R:List (ae)}{M:Int}{i:Nat}{x:ae}(h:(FW Λ R M)[i]?=some x):∃l r,Λ[i]?=some l∧R[i]?=some r∧x=up l r M:=by
 unfold FW at h;rw[Xj]at h;cases a:Λ[i]? with
 |none=>rw[a]at h;simp at h
 |some l=>
  cases b:R[i]? with
  |none=>rw[a,b]at h;simp at h
  |some r=>rw[a,b]at h;simp at h;exact⟨l,r,rfl,rfl,h.symm⟩
def zip_fst:∀(A B:List (ae)),A.length=B.length→(List.zipWith (fun l r=>((fun t=>ev t l:Int→Int),(fun t=>ev t r:Int→Int))) A B).map Prod.fst=fs A
| [],B,_=>by simp[fs]
|a::A,[],h=>cT
|a::A,b::B,h=>by have:=zip_fst A B dN;simp only[afD,pK,this];rfl
def Ue(M:Int):∀(A B:List (ae)) (t:Int),A.length=B.length→pA ((List.zipWith (fun l r=>((fun t=>ev t l:Int→Int),(fun t=>ev t r:Int→Int))) A B).map fun x t=>x.1 t+M*x.2 t) t=pA (fs (FW A B M)) t
| [],B,t,_=>by simp[fs,FW]
|a::A,[],t,h=>cT
|a::A,b::B,t,h=>by have:=Ue M A B t dN;simp only[afD,pK,FW,fs]at this ⊢;show(ev t a+M*ev t b)*_=ev t (up a b M)*_;rw[this,acQ]
def wK{A B:List (ae)}{x:(Int→Int)×(Int→Int)}(h:x∈List.zipWith (fun l r=>((fun t=>ev t l:Int→Int),(fun t=>ev t r:Int→Int))) A B):∃(i:Nat)(a b:ae),A[i]?=some a∧B[i]?=some b∧x=((fun t=>ev t a),fun t=>ev t b):=by
 obtain⟨i,hi⟩:=vA h;rw[Xj]at hi;cases c:A[i]? with
 |none=>rw[c]at hi;simp at hi
 |some l=>
  cases d:B[i]? with
  |none=>rw[c,d]at hi;simp at hi
  |some r=>rw[c,d]at hi;simp at hi;exact⟨i,l,r,c,d,hi.symm⟩
def E5.next{p n k:Nat}(cZ:2≤p)(N:cq (p:Int)){F:ae}{U Λ C R:List (ae)}{mw ms:ae}(h:E5 p F U k Λ)(w:AN p (fun t=>ev t F) (lead F) n U)(P:Sq p (fun t=>ev t F))(Q:F≠ [])(I:¬(p:Int)∣lead F)(S:∀(i:Nat)(u c:ae),U[i]?=some u→C[i]?=some c→Ai p (fun t=>ev t F) u c)(T:C.length=U.length)(hex:∀t,ev t F-lead F*pA (fs Λ) t=(p:Int)^k*ev t mw)(z:Zm p (fun t=>ev t ms-ev t mw))(A:ms.length≤F.length-1)(E8:R.length=U.length)(B:∀(i:Nat)(u c r:ae),U[i]?=some u→C[i]?=some c→R[i]?=some r→gi p r∧r.length<u.length∧Di p (fun t=>ev t u) (fun t=>ev t ms*ev t c-ev t r)):E5 p F U (k+1) (FW Λ R ((p:Int)^k)):=by
 have hlen:=h.len;have W:=bR.2 Q;have q:∀i,i<U.length→∃u c r l,U[i]?=some u∧C[i]?=some c∧R[i]?=some r∧Λ[i]?=some l:=fun i hi=>⟨_,_,_,_,cj hi,cj o,cj o,cj o⟩;have X:Dm p (F.length-1) (fun t=>ev t F):=Dm.ig (Ld.eM o) I;refine⟨o,by unfold FW;rw[List.length_zipWith];omega,fun i x u d hu=>?_,?_⟩;obtain⟨l,r,e,g,rfl⟩:=agQ d;have hi:i<U.length:=(eQ.1 hu).1;obtain⟨u',c,r',l',q1,q2,q3,q4⟩:=q i hi;obtain rfl:u=u':=dw (hu.symm.trans q1);obtain rfl:r=r':=dw (g.symm.trans q3);obtain⟨g1,g2,g3,g4⟩:=h.Sd i l u e hu;obtain⟨D,K,_⟩:=B i u c r hu q2 g;have hul:=(w.mem u (cN hu)).1.len;have M:=ag1 (l:=l) (r:=r) ((p:Int)^k) o;refine⟨by rw[M];exact g1,?_,?_,fun j=>?_⟩;unfold lead;rw[M,FF,au (show r.length≤l.length-1 by omega)];have:l.getD (l.length-1) 0=1:=g2;omega;obtain⟨j,rfl⟩:∃j,k=j+1:=⟨k-1,by have:=h.one;omega⟩;refine(g3.add (Zm.of_dvd (c:=(p:Int)^(j+1)) (Po.ev r) (by rw[bW];exact oL ..))).congr fun t=>?_;rw[acQ];omega;obtain⟨a1,a2⟩:=g4 j;obtain⟨b1,b2⟩:=D.1 j;have v:0<(p:Int)^k:=ky o;have c1:=fO (eC v) b1;have c2:(p:Int)^k*r.getD j 0≤(p:Int)^k*(p-1):=mQ o (eC v);rw[FF,bW];rw[ek,kJ]at c2;omega;have gP:=zip_fst Λ R o;have iw:=zip_fst U R o;have E:Zm p (fun t=>lead F*sP (List.zipWith (fun l r=>((fun t=>ev t l:Int→Int),(fun t=>ev t r:Int→Int))) U R) t-ev t ms):=by refine xM (n:=F.length-1) o N P X I ⟨ms,A,fun _=>rfl⟩ (fun x d=>?_) (by rw[iw];exact w.eq) fun x d=>?_;obtain⟨i,u,r,e,g,rfl⟩:=wK d;obtain⟨_,c,_,_,_,q2,_,_⟩:=q i (eQ.1 e).1;obtain⟨D,K,_⟩:=B i u c r e q2 g;have hu:=(w.mem u (cN e)).1;exact⟨u.length-1,hu.ld,⟨r,o,fun _=>rfl⟩⟩;obtain⟨i,u,r,e,g,rfl⟩:=wK d;obtain⟨_,c,_,_,_,q2,_,_⟩:=q i (eQ.1 e).1;obtain⟨D,K,r3⟩:=B i u c r e q2 g;obtain⟨_,_,O,o1,o2,o3⟩:=S i u c e q2;exact⟨O,fun t=>ev t c,o1,Po.ev c,o2,o3,r3⟩
 have G:=KL (m:=(p:Int)) (List.zipWith (fun l r=>((fun t=>ev t l:Int→Int),(fun t=>ev t r:Int→Int))) Λ R) (List.zipWith (fun l r=>((fun t=>ev t l:Int→Int),(fun t=>ev t r:Int→Int))) U R) aZ (fun x d=>by
  obtain⟨i,a,b,_,_,rfl⟩:=wK d;exact⟨Po.ev a,Po.ev b⟩) (fun x d=>by
   obtain⟨i,a,b,_,_,rfl⟩:=wK d;exact⟨Po.ev a,Po.ev b⟩) (fun i x y d s=>by
    rw[Xj]at d s;cases e:Λ[i]? with
    |none=>rw[e]at d;simp at d
    |some l=>
     cases g:R[i]? with
     |none=>rw[e,g]at d;simp at d
     |some r=>
      cases H:U[i]? with
      |none=>rw[H]at s;simp at s
      |some u=>rw[e,g]at d;rw[H,g]at s;simp at d s;subst d;subst s;exact⟨(h.Sd i l u e H).2.2.1,fun _=>rfl⟩)
 have:=N4 (p:=p) (k:=k) (f:=fun t=>ev t F) (ms:=fun t=>ev t ms) (mw:=fun t=>ev t mw) (c:=lead F) h.one (L:=List.zipWith (fun l r=>((fun t=>ev t l:Int→Int),(fun t=>ev t r:Int→Int))) Λ R) (fun x d=>by obtain⟨i,a,b,_,_,rfl⟩:=wK d;exact⟨Po.ev a,Po.ev b⟩) (fun t=>by rw[gP];exact hex t) z ((E.add (G.2.aO (lead F))).congr fun t=>SW);exact this.congr fun t=>by rw[Ue _ Λ R t o]
def E5.zas{p n k:Nat}(r:2≤p)(s:cq (p:Int)){F:ae}{U Λ:List (ae)}(h:E5 p F U k Λ)(q:AN p (fun t=>ev t F) (lead F) n U)(u:Sq p (fun t=>ev t F))(hF:F≠ [])(v:¬(p:Int)∣lead F):wh p k (fs Λ) (fun t=>ev t F) (lead F) (F.length-1) where
 two:=r
 Ip:=s
 one:=h.one
 Nv:=fun g f=>by
  obtain⟨l,j,rfl⟩:=BE f
  obtain⟨i,hi⟩:=vA j
  have d:i<U.length:=VK
  obtain⟨w,q2,e,_⟩:=h.Sd i l _ hi (cj d)
  have hu:=(q.mem U[i] (jl d)).2
  obtain⟨a1,a2,a3,a4⟩:=hu
  refine⟨Po.ev l,fun m=>a2 ((m.sub e).congr fun t=>o),fun x=>a3 (x.alike (e.neg.congr fun t=>o)),fun a b c y z hc m=>a4 a b c y z hc ((m.sub (e.aO c)).congr fun t=>by dsimp only;rw[ek];omega)⟩
 Sd:=fun g f=>by
  obtain⟨l,j,rfl⟩:=BE f
  obtain⟨i,hi⟩:=vA j
  have d:i<U.length:=VK
  obtain⟨w,q2,e,_⟩:=h.Sd i l _ hi (cj d)
  have A:=(q.mem U[i] (jl d)).1.len
  refine⟨l.length-1,?_⟩
  have:=Ld.eM (l:=l) (n:=l.length-1) o
  rwa[show l.getD (l.length-1) 0=1 from q2]at this
 sq:=u
 hc:=v
 ld:=Ld.eM agy
 alike:=h.eq
def oy(M z:Int):Int:=
 if M<((z.tmod M+z.tmod M).natAbs:Int)then(if 0<z.tmod M then z.tmod M-M else z.tmod M+M)else z.tmod M
def UN(M z:Int):M∣oy M z-z:=by have h:=aeX z M;unfold oy;split;split;exact⟨-(z.tdiv M)-1,by rw[ek,kT,kJ];omega⟩;exact⟨-(z.tdiv M)+1,by rw[dE,kT,kJ];omega⟩;exact⟨-(z.tdiv M),by rw[kT];omega⟩
def abR{M:Int}(a:0<M)(z:Int):2*((oy M z).natAbs:Int)≤M:=by(have b:((z.tmod M).natAbs:Int)<M:=by have:=XI z M;have c:=Nat.mod_lt z.natAbs (show 0<M.natAbs by omega);omega);unfold oy;split;split<;>omega;omega
def WW{M:Int}(l:ae):Zm M (fun t=>ev t (l.map (oy M))-ev t l):=by
 induction l with
 |nil=>exact Zm.aq _ fun _=>rfl
 |cons a l b=>obtain⟨g,c,d⟩:=b;obtain⟨q,e⟩:=UN M a;refine⟨fun t=>q+t^1*g t,(Po.const q).add ((Po.mW 1).mul c),fun t=>?_⟩;have f:ev t (l.map (oy M))-ev t l=M*g t:=d t;show oy M a+t*ev t (l.map (oy M))-(a+t*ev t l)=M*(q+t^1*g t);rw[lG,dE,←e,gy,←f,ek];omega
def re:List (ae)→Nat
| []=>0
|l::L=>(l.length-1)+re L
def Cm:∀A B:List (ae),re (A++B)=re A+re B
| [],B=>by simp[re]
|a::A,B=>by simp only[zq,re,Cm A B];omega
def D4{L:List (ae)}{i:Nat}{l:ae}(h:L[i]?=some l):re (L.take (i+1))=re (L.take i)+(l.length-1):=by rw[nL,h,Cm];simp[re]
def Fj:∀L:List (ae),(∀l,l∈L→lead l=1∧0<l.length)→Ld (re L) 1 (pA (fs L))
| [],_=>Ld.const 1
|l::L,h=>by obtain⟨a,d⟩:=h l (dh ..);(have b:Ld (l.length-1) 1 (fun t=>ev t l):=by have:=Ld.eM (l:=l) (n:=l.length-1) o;rwa[show l.getD (l.length-1) 0=1 from a]at this);have:=b.mul (Fj L fun x c=>h x (eh _ c));rw[lC]at this;exact this
def E5.re{p n k:Nat}(a:cq (p:Int)){F:ae}{U Λ:List (ae)}(h:E5 p F U k Λ)(hs:AN p (fun t=>ev t F) (lead F) n U)(hF:F≠ [])(b:¬(p:Int)∣lead F):Go.Proofs.YtldcjkhbiffdoaaGreatDoor.re Λ=F.length-1:=by have hl:∀l,l∈Λ→lead l=1∧0<l.length:=fun l hl=>at1;have c:Dm p (Go.Proofs.YtldcjkhbiffdoaaGreatDoor.re Λ) (fun t=>lead F*pA (fs Λ) t):=(Dm.ig (Fj Λ hl) a.2).aO a b;have d:Dm p (F.length-1) (fun t=>ev t F):=Dm.ig (Ld.eM agy) b;exact(c.alike (h.eq.Bj h.one)).uniq d
structure Aq(M cl:Int)(L:List (ae))(s:Nat)(i bits:Nat)(W:ae):Prop where
 eq:Zm M (fun t=>cl*pS (fs L) s t-ev t W*pS (fs (L.drop i)) bits t)
 bd:∀k,2*((W.getD k 0).natAbs:Int)≤M
 len:W.length≤1+re (L.take i)
 bl:bits≤s
def Aq.start{M a:Int}(L:List (ae))(s:Nat)(h:2*(a.natAbs:Int)≤M):Aq M a L s 0 s [a] where
 eq:=Zm.aq _ fun t=>gQ
 bd:=fun k=>by
  rw[eR]
  split
  ·exact h
  ·simp;omega
 len:=by simp[re]
 bl:=Z _
def OU{L:List (ae)}{i:Nat}{l:ae}(h:L[i]?=some l):fs (L.drop i)=(fun t=>ev t l)::fs (L.drop (i+1)):=by
 have hi:i<L.length:=by rcases aX i L.length with a|a;exact a;rw[dF a]at h;cases h
 rw[gV hi];have:L[i]=l:=by rw[cj hi]at h;exact dw h
 rw[this];rfl
def Aq.zero{M a:Int}{L:List (ae)}{s i bits:Nat}{W l:ae}(h:Aq M a L s i bits W)(b:L[i]?=some l)(c:bits%2=0):Aq M a L s (i+1) (bits/2) W where
 eq:=h.eq.congr fun t=>by
  rw[OU b]
  conv=>rhs;rw[show bits=2*(bits/2) by omega,tC]
 bd:=h.bd
 len:=by have:=h.len;rw[D4 b];omega
 bl:=by have:=h.bl;omega
def Aq.one{M a:Int}(c:0<M){L:List (ae)}{s i bits:Nat}{W l P:ae}(h:Aq M a L s i bits W)(b:L[i]?=some l)(e:bits%2=1)(d:∀t,ev t P=ev t W*ev t l)(hlen:P.length≤W.length+(l.length-1)):Aq M a L s (i+1) (bits/2) (P.map (oy M)) where
 eq:=by
  have hS:Po (pS (fs (L.drop (i+1))) (bits/2)):=E6 _ (nI _) _
  refine(h.eq.sub ((WW (M:=M) P).mul hS)).congr fun t=>?_
  rw[OU b]
  conv=>rhs;lhs;rw[show bits=1+2*(bits/2) by omega,sB]
  rw[d]
  generalize ev t (P.map (oy M))=x
  generalize pS (fs (L.drop (i+1))) (bits/2) t=y
  simp only[rZ]
  omega
 bd:=fun k=>by
  have:(P.map (oy M)).getD k 0=if k<P.length then oy M (P.getD k 0)else 0:=by
   rcases aX k P.length with h1|h1
   ·rw[V h1];simp[List.getD,cj h1]
   ·rw[U o,au l9]
  rw[this]
  split
  ·exact abR c _
  ·simp;omega
 len:=by have:=h.len;rw[D4 b,mT];omega
 bl:=by have:=h.bl;omega
def Aq.ends{M a:Int}{L:List (ae)}{s bits:Nat}{W:ae}(h:Aq M a L s L.length bits W):Zm M (fun t=>ev t W-a*pS (fs L) s t):=by refine h.eq.neg.congr fun t=>?_;rw[yR];show _=-(a*pS (fs L) s t-ev t W*1);omega
def JG(R b:ae)(c:Int)(n:Nat)(t:Int):ev t (jm R b c n)=ev t R-c*(t^n*ev t b):=by(have h:∀k,(jm R b c n).getD k 0=(fk R ((List.replicate n 0++b).map fun x=>-c*x)).getD k 0:=fun k=>by rw[lN,cG,aS,dH];by_cases a:n≤k;rw[V a,U o,jk];omega;rw[U a,V o];simp);rw[eB h,dM,bs,NT,jk];omega
def Bw{b:ae}:∀ {n:Nat} {R Q:ae},jN b n R=some Q→∀t,ev t R=ev t b*ev t Q
|0,R,Q,h=>fun t=>by unfold jN at h;split at h;(·next f=>cases h;subst f;simp[ev]);cases h
|n+1,R,Q,h=>fun t=>by
 by_cases d:(R.getD (n+b.length-1) 0).tmod (lead b)=0
 ·rw[qu d]at h;cases a:jN b n (jm R b ((R.getD (n+b.length-1) 0).tdiv (lead b)) n)with
  |none=>rw[a]at h;cases h
  |some q=>rw[a]at h;cases h;have e:=Bw a t;rw[JG]at e;rw[rI,oQ a,dE,←e];generalize(R.getD (n+b.length-1) 0).tdiv (lead b)=c;rw[gy (ev t b),bm (ev t b) (t^n)];omega
 rw[xE d]at h;cases h
def Tr.zero{R:ae}(h:Tr R)(e:∀t,ev t R=0):R=[]:=h.ext Tr.nil fun k=>by rw[mG (m:=[]) 0 (fun t _=>by rw[e];rfl) k]
def oG{b:ae}(h:Tr b)(a:b≠ []):lead b≠0:=h a
def Kf{b:ae}(tb:Tr b)(a:b≠ []):∀(n:Nat) {R S:ae},Tr R→S.length≤n→(∀t,ev t R=ev t b*ev t S)→jN b n R≠none
|0,R,S,d,hS,e=>by obtain rfl:S=[]:=ij.1 o;(have:R=[]:=d.zero fun t=>by rw[e];simp[ev]);subst this;simp[jN]
|n+1,R,S,d,hS,e=>by
 have v:=bR.2 a;have h:=oG tb a;have i:Ld (b.length-1) (lead b) (fun t=>ev t b):=Ld.eM o;have c:Ld n (S.getD n 0) (fun t=>ev t S):=Ld.eM hS;have j:=i.mul c;obtain⟨l,w,q2,m⟩:=j.list;have hc:∀k,R.getD k 0=l.getD k 0:=mG 0 fun t _=>by rw[e,←m]
 have f:R.getD (n+b.length-1) 0=lead b*S.getD n 0:=by rw[hc,show n+b.length-1=b.length-1+n by omega];exact q2
 have p:(R.getD (n+b.length-1) 0).tmod (lead b)=0:=by rw[f];exact Int.mul_tmod_right ..
 have r:(R.getD (n+b.length-1) 0).tdiv (lead b)=S.getD n 0:=by rw[f];exact ahf _ h
 rw[qu p,r];have s:=Kf tb a n (R:=jm R b (S.getD n 0) n) (S:=S.take n) (pY _ _ _ _) mI fun t=>by have g:=dC t S n;rw[gT hS]at g;rw[JG,e,g,dE,gy (ev t b) (S.getD n 0),bm (ev t b) (t^n)];omega
 cases u:jN b n (jm R b (S.getD n 0) n)with
 |none=>exact absurd u s
 |some q=>simp
def Po.list{f:Int→Int}(h:Po f):∃l:ae,Tr l∧∀t,f t=Go.Proofs.YtldcjkhbiffdoaaGreatDoor.ev t l:=by obtain⟨n,l,_,a⟩:=h;exact⟨tz l,eS l,fun t=>by rw[kL];exact a t⟩
def Tr.dm{l:ae}(h:Tr l)(a:l≠ []):Dm 0 (l.length-1) (fun t=>ev t l):=by have:=bR.2 a;exact tO (Ld.eM o) (oG h a)
def m_{a b s:ae}(ta:Tr a)(tb:Tr b)(ts:Tr s)(d:b≠ [])(f:s≠ [])(e:∀t,ev t a=ev t b*ev t s):a≠ []∧a.length+1=b.length+s.length∧lead a=lead b*lead s:=by have b0:=bR.2 d;have m:=bR.2 f;have i:=((tb.dm d).mul cq.zero (ts.dm f)).alike (g:=fun t=>ev t a) (Zm.aq _ fun t=>Cv);have c:a≠ []:=fun h=>i.not (Zm.aq _ fun t=>by rw[h];rfl);have a0:=bR.2 c;have k:=(ta.dm c).uniq i;have j:Ld (a.length-1) (lead a) (fun t=>ev t a):=Ld.eM o;have l:Ld (b.length-1) (lead b) (fun t=>ev t b):=Ld.eM o;have hS:Ld (s.length-1) (lead s) (fun t=>ev t s):=Ld.eM o;refine⟨c,o,?_⟩;rw[k]at j;exact j.uniq (l.mul hS) e
def NX{a b:ae}(ta:Tr a)(tb:Tr b)(c:b≠ []){s:Int→Int}(f:Po s)(e:∀t,ev t a=ev t b*s t):∃Q,jN b (a.length+1-b.length) a=some Q:=by
 obtain⟨S,g,h2⟩:=f.list;have d:∀t,ev t a=ev t b*ev t S:=fun t=>NN;have i:S.length≤a.length+1-b.length:=by by_cases hS:S=[];subst hS;simp;have:=(m_ ta tb g c hS d).2.1;omega
 have:=Kf tb c _ ta i d;cases h:jN b (a.length+1-b.length) a with
 |none=>exact absurd h this
 |some Q=>exact⟨Q,rfl⟩
def vj(d:Nat):∀(l:ae)(g:Nat),d∣g→(∀c,c∈l→(d:Int)∣c)→d∣l.foldl (fun g c=>Int.gcd g c) g
| [],g,h,_=>h
|a::l,g,h,b=>by refine vj d l _ ?_ fun c hc=>b c (eh _ hc);exact Nat.dvd_gcd dN (BX.1 (b a (dh ..)))
def UD{d:Nat}{l:ae}(h:∀c,c∈l→(d:Int)∣c):d∣cont l:=vj d l 0 (Nat.dvd_zero _) h
def aa3{p:Nat}{l:ae}(h:Zm p (fun t=>ev t l)):p∣cont l:=by refine UD fun c hc=>?_;obtain⟨i,hi⟩:=vA hc;have:=oo (l:=l) (m:=[]) (h.congr fun t=>gQ) i;rw[List.getD,hi]at this;simpa using this
def aac{p:Nat}{l:ae}(h:p∣cont l):Zm p (fun t=>ev t l):=by(have:=Zm.t_ (p:=p) (l:=l) (m:=[]) fun k=>by have:=l4 l k;simp only[List.getD_nil,pq];exact gH (zM.2 h) this);exact this.congr fun t=>gQ
def w_(l:ae)(t:Int):ev t l=bD l*ev t (aH l):=by rw[←bs];exact eB (fun k=>by rw[aS];exact nT l k) t
def EU(l:ae):lead l=bD l*lead (aH l):=by unfold lead;rw[bV];exact nT l _
def Nu{l:ae}(h:Tr l)(c:l≠ []):0<lead (aH l):=by have b:=EU l;have d:=oG h c;have hc:0<cont l:=Cb d;unfold bD at b;split at b;(·next e=>rcases nS 0 (lead (aH l))with a|a;exact a;have:=agw (show(-(cont l:Int))≤0 by omega) a;omega);·next e=>rcases nS 0 (lead (aH l))with a|a;exact a;have f:=mQ a (show 0≤(cont l:Int) by omega);rw[jw]at f;omega
def wZ{l:ae}(h:Tr l)(c:l≠ [])(d:aH l=l):cont l=1∧0<lead l:=by have e:=EU l;have a:=Nu h c;rw[d]at e a;(have b:bD l=1:=by(have:(bD l-1)*lead l=0:=by rw[im,lC];omega);rcases Hi.1 this with h|h<;>omega);unfold bD at b;rw[U o]at b;exact⟨o,a⟩
def YN{l:ae}(h:Tr l)(a:l≠ [])(b:aH l=l):D9 (fun t=>ev t l):=by refine⟨Po.ev l,fun p d _ c=>?_⟩;have:=aa3 c;rw[(wZ h a b).1]at this;have:=te o this;omega
def YQ{l:ae}(hc:cont l=1)(b:0<lead l):aH l=l:=by(have a:bD l=1:=by unfold bD;rw[U o,hc];rfl);unfold aH;rw[a];simp
def Xl{l:ae}(h:D9 (fun t=>ev t l))(a:0<lead l):aH l=l:=by refine YQ ?_ a;have hc:0<cont l:=Cb (k:=l.length-1) (by show lead l≠0;omega);refine kQ fun e=>?_;obtain⟨p,b,c,d⟩:=CJ (cont l) o;exact h.2 p b d (aac c)
structure Pp(l:ae):Prop where
 tr:Tr l
 ne:l≠ []
 pr:aH l=l
def Pp.prm{l:ae}(h:Pp l):D9 (fun t=>ev t l):=YN h.tr h.ne h.pr
def Pp.lead{l:ae}(h:Pp l):0<lead l:=(wZ h.tr h.ne h.pr).2
def Pp.of{l:ae}(h:Tr l)(a:0<Go.Proofs.YtldcjkhbiffdoaaGreatDoor.lead l)(b:D9 (fun t=>ev t l)):Pp l:=⟨h,fun e=>by subst e;simp[Go.Proofs.YtldcjkhbiffdoaaGreatDoor.lead]at a,Xl b a⟩
def Pp.aH{l:ae}(h:Tr l)(a:l≠ []):Pp (aH l):=⟨h.aH,fun e=>a (ij.1 (by rw[←bV l,e];rfl)),jY h⟩
def Pp.ext{l m:ae}(a:Tr l)(hm:Tr m)(e:∀t,ev t l=ev t m):l=m:=a.ext hm (mG 0 fun t _=>e t)
def Pp.quot{a b s:ae}(c:Pp a)(d:Pp b)(ts:Tr s)(e:∀t,ev t a=ev t b*ev t s):Pp s:=by have f:s≠ []:=fun h=>c.ne (c.tr.zero fun t=>VD);obtain⟨_,_,g⟩:=m_ c.tr d.tr ts d.ne f e;refine Pp.of ts ?_ (D9.left (Po.ev s) (Po.ev b) (c.prm.congr fun t=>by rw[e,bm]));have i:=c.lead;have j:=d.lead;rw[g]at i;rcases nS 0 (Go.Proofs.YtldcjkhbiffdoaaGreatDoor.lead s)with h|h;exact h;have k:=mQ h (eC j);rw[jw]at k;omega
def Pe{A B:ae}(h:B.length≤A.length)(t:Int):ev t (elim A B)=lead B*ev t A-lead A*(t^(A.length-B.length)*ev t B):=by(have e:∀k,(elim A B).getD k 0=(fk (A.map fun x=>lead B*x) ((List.replicate (A.length-B.length) 0++B).map fun x=>-lead A*x)).getD k 0:=fun k=>by rw[qf,cG,aS,aS,dH];by_cases a:A.length-B.length≤k;rw[V a,U o,jk,bm (A.getD k 0)];omega;rw[U a,V o,bm (A.getD k 0)];simp);have:=h;rw[eB e,dM,bs,bs,NT,jk];omega
def PI{r:Int→Int}{l:ae}(h:Tr l):Dv 0 r (fun t=>ev t (aH l))↔Dv 0 r (fun t=>ev t l):=by by_cases b:l=[];subst b;exact Iff.rfl;have c:=sO h b;constructor;intro a;exact(a.mul (Po.const (bD l))).alike (Zm.aq _ fun t=>by rw[w_ l t];omega);intro a;exact Dv.BB cq.zero (dS.2 c) (a.alike (Zm.aq _ fun t=>by rw[w_ l t];omega))
def OD{r:Int→Int}{A B:ae}(d:Tr B)(e:B≠ [])(h:B.length≤A.length):(Dv 0 r (fun t=>ev t A)∧Dv 0 r (fun t=>ev t B))↔(Dv 0 r (fun t=>ev t (aH (elim A B)))∧Dv 0 r (fun t=>ev t B)):=by rw[PI (ir A B)];have b:=cq.zero;constructor;rintro⟨c,a⟩;refine⟨((c.mul (Po.const (lead B))).add b (a.mul ((Po.mW (A.length-B.length)).aO (-lead A)))).alike (Zm.aq _ fun t=>?_),a⟩;rw[Pe h,jk,jk,bB];omega;rintro⟨c,a⟩;refine⟨Dv.BB b (dS.2 (oG d e)) ((c.add b (a.mul ((Po.mW (A.length-B.length)).aO (lead A)))).alike (Zm.aq _ fun t=>?_)),a⟩;rw[Pe h,bB];omega
def F3:∀(n:Nat) {A B:ae},Tr A→Tr B→A.length+B.length≤n→∀r:Int→Int,(Dv 0 r (fun t=>ev t A)∧Dv 0 r (fun t=>ev t B))↔Dv 0 r (fun t=>ev t (gW n A B))
|0,A,B,_,_,h,r=>by obtain rfl:A=[]:=ij.1 o;obtain rfl:B=[]:=ij.1 o;rw[gX];exact⟨fun h=>h.1,fun h=>⟨h,h⟩⟩
|n+1,A,B,tA,tB,h,r=>by have d:Dv 0 r (fun t=>ev t ([]:ae)):=Dv.mR cq.zero (Zm.aq _ fun _=>rfl);by_cases b:A=[];subst b;rw[gX];exact⟨fun h=>h.2,fun h=>⟨d,h⟩⟩;by_cases c:B=[];subst c;rw[iL];exact⟨fun h=>h.1,fun h=>⟨h,d⟩⟩;have a0:=bR.2 b;have b0:=bR.2 c;rcases aX A.length B.length with a|a;rw[uE n b a,and_comm,OD tA b o];have hle:=iI a0 (show A.length≤B.length by omega);exact F3 n (ir _ _).aH tA Eo r;rw[oY n c a,OD tB c a];have hle:=iI b0 a;exact F3 n (ir _ _).aH tB Eo r
def GU:∀(n:Nat) {A B:ae},Tr A→Tr B→aH A=A→aH B=B→A.length+B.length≤n→(A≠ []∨B≠ [])→Pp (gW n A B)
|0,A,B,_,_,_,_,h,d=>by obtain rfl:A=[]:=ij.1 o;obtain rfl:B=[]:=ij.1 o;exact d.elim (fun h=>absurd rfl h) (fun h=>absurd rfl h)
|n+1,A,B,tA,tB,pA,pB,h,d=>by by_cases a:A=[];subst a;rw[gX];exact⟨tB,d.resolve_left (fun h=>absurd rfl h),pB⟩;by_cases b:B=[];subst b;rw[iL];exact⟨tA,a,pA⟩;have a0:=bR.2 a;have b0:=bR.2 b;rcases aX A.length B.length with c|c;rw[uE n a c];have hle:=iI a0 (show A.length≤B.length by omega);exact GU n (ir _ _).aH tA (jY (ir _ _)) pA Eo (.inr a);rw[oY n b c];have hle:=iI b0 c;exact GU n (ir _ _).aH tB (jY (ir _ _)) pB Eo (.inr b)
structure CO(p:Nat)(F:ae)(Λ found:List (ae))(left:ae)(taken choice:Nat):Prop where
 cb:CB p (fs Λ) (fun t=>ev t F) (fs found) (fun t=>ev t left) taken choice
 fp:∀g,g∈found→Pp g
 lp:Pp left
def CO.start{p k n:Nat}{F:ae}{Λ:List (ae)}{c:Int}(Z:wh p k (fs Λ) (fun t=>ev t F) c n)(a:Pp F):CO p F Λ [] F 0 1:=⟨CB.start Z,fun g h=>ji,a⟩
def CO.skip{p:Nat}{F:ae}{Λ found:List (ae)}{left:ae}{taken choice:Nat}(h:CO p F Λ found left taken choice)(a:choice&&&taken≠0):CO p F Λ found left taken (choice+1):=⟨h.cb.skip a,h.fp,h.lp⟩
def CO.eq{p:Nat}{F:ae}{Λ found:List (ae)}{left:ae}{taken choice:Nat}(h:CO p F Λ found left taken choice)(t:Int):ev t F=ev t left*pA (fs found) t:=by rw[h.cb.eq t,bm]
def CO.nd{p k n:Nat}{F:ae}{Λ found:List (ae)}{left:ae}{taken choice:Nat}{c:Int}(Z:wh p k (fs Λ) (fun t=>ev t F) c n)(h:CO p F Λ found left taken choice):¬(p:Int)∣lead left∧(lead left).natAbs≤c.natAbs:=by have s:=bR.2 h.lp.ne;obtain⟨a,b,g,j,i,u,v,d⟩:=lds Z.ld Z.ZI (Po.ev left) (ke _ (nI found)) h.eq;have l:Ld (left.length-1) (lead left) (fun t=>ev t left):=Ld.eM o;have f:g≠0:=fun e=>Z.ZI (by rw[d,e,lr]);have w:j≠0:=fun e=>Z.ZI (by rw[d,e,jw]);have m:=(tO i f).uniq (h.lp.tr.dm h.lp.ne);subst m;have q:g=lead left:=i.uniq l fun _=>rfl;subst q;refine⟨fun r=>Z.hc (by rw[d];exact gH r (pO ..)),?_⟩;rw[d,eX];exact Wi _ o
def Fl{p k n:Nat}{F:ae}{Λ:List (ae)}{c a:Int}{W:ae}{s:Nat}(Z:wh p k (fs Λ) (fun t=>ev t F) c n)(b:¬(p:Int)∣a)(f:Zm ((p:Int)^k) (fun t=>ev t W-a*pS (fs Λ) s t)):tz W≠ []:=by
 intro e;have g:∀t,ev t W=0:=fun t=>by rw[←kL,e];rfl
 obtain⟨d,h⟩:=JX (fs Λ) Z.Sd s;have i:Zm p (fun t=>a*pS (fs Λ) s t):=(f.Bj Z.one).neg.congr fun t=>by rw[g];omega
 have:=i.lead (h.aO a);rw[kJ]at this;exact b this
def CO.hit{p k n:Nat}{F:ae}{Λ found:List (ae)}{left:ae}{taken choice:Nat}{c:Int}(Z:wh p k (fs Λ) (fun t=>ev t F) c n)(h:CO p F Λ found left taken choice)(i:0<choice)(b:choice<2^(Λ.length-1)){W Q:ae}(d:Zm ((p:Int)^k) (fun t=>ev t W-lead left*pS (fs Λ) choice t)){m:Nat}(hQ:jN (aH (tz W)) m left=some Q):CO p F Λ (found++[aH (tz W)]) (tz Q) (taken|||choice) (choice+1):=by
 obtain⟨e,_⟩:=h.nd Z;have j:=Fl Z e d;have f:Pp (aH (tz W)):=Pp.aH (eS W) j;have he:∀t,ev t left=ev t (aH (tz W))*ev t (tz Q):=fun t=>WC;have l:choice<2^(fs Λ).length:=by rw[rK];exact dy b (cI J o)
 have hm:Mk p (fs Λ) (fun t=>ev t (aH (tz W))) choice:=Z.QI (w:=fun t=>ev t W) (κ:=bD (tz W)) (Po.ev _) l e (fun t=>by rw[←kL,w_ (tz W)]) d;have:=h.cb.hit Z i (by rw[rK];exact b) (Po.ev _) (Po.ev (tz Q)) he hm;refine⟨by rw[pj];exact this,fun g a=>?_,h.lp.quot f (eS Q) he⟩;rcases fo.1 a with a|a;exact h.fp g a;obtain rfl:g=aH (tz W):=by simpa using a
 exact f
def CO.Tb{p k n:Nat}{F:ae}{Λ found:List (ae)}{left:ae}{taken choice:Nat}{c:Int}(Z:wh p k (fs Λ) (fun t=>ev t F) c n)(z:n≤10)(h:CO p F Λ found left taken choice)(hM:2*(2^n*(eT F:Int))<(p:Int)^k){W:ae}(A:∀B,2*((W.getD B 0).natAbs:Int)≤(p:Int)^k)(v:Zm ((p:Int)^k) (fun t=>ev t W-lead left*pS (fs Λ) choice t))(C:jN (aH (tz W)) (left.length+1-(aH (tz W)).length) left=none):CO p F Λ found left taken (choice+1):=by refine⟨h.cb.Tb fun g q D w e hm=>?_,h.fp,h.lp⟩;have l0:=bR.2 h.lp.ne;obtain⟨E,_⟩:=h.nd Z;have H:Ld (left.length-1) (lead left) (fun t=>ev t left):=Ld.eM o;obtain⟨a,b,cg,d,I,h2,h3,K,h5,h6,L,H',l,b',N,h9,O,r⟩:=h.cb.oy Z D w e hm H (oG h.lp.tr h.lp.ne);obtain⟨G,g1,g2,g3⟩:=I.list;obtain⟨P,R,S,T⟩:=N.list;have s:=fun j=>J3 (f:=F) (g:=G) (h:=P) z O o R (fun t=>by rw[r t,g3,T]) j;(have X:∀j,2*(((G.map fun x=>d*x).getD j 0).natAbs:Int)<(p:Int)^k:=fun j=>by have u:=s j;rw[S]at u;rw[aS];(have h13:(d*G.getD j 0).natAbs≤(d*l*G.getD j 0).natAbs:=by rw[show d*l*G.getD j 0=l*(d*G.getD j 0) by simp only[rZ],eX l];exact YE _ o);omega);have KX:=Ou (M:=(p:Int)^k) (W:=W) (V:=G.map fun x=>d*x) ((v.sub L).congr fun t=>by rw[bs,←g3];omega) A X;have YZ:aH (tz W)=aH (tz G):=oR K (eS G) (eS W) (mG (m:=(tz G).map fun x=>d*x) 0 (fun t _=>by rw[kL,bs,kL,KX,bs]) · |>.trans (aS ..));have aF:=Fl Z E v;have y:Pp (aH (tz W)):=Pp.aH (eS W) aF;obtain⟨Q,i⟩:=NX h.lp.tr y.tr y.ne (w.aO (bD (tz G))) (fun t=>by have e1:ev t left=g t*q t:=e t;rw[e1,g3,←kL,w_ (tz G),YZ];simp only[rZ]);rw[C]at i;cases i
structure Gb(F:ae)(P:List (ae)):Prop where
 mem:∀g,g∈P→Pp g∧Iz (fun t=>ev t g)
 eq:∀t,ev t F=pA (fs P) t
def CO.ends{p k n:Nat}{F:ae}{Λ found:List (ae)}{left:ae}{taken choice:Nat}{c:Int}(Z:wh p k (fs Λ) (fun t=>ev t F) c n)(h:CO p F Λ found left taken choice)(b:2^(Λ.length-1)≤choice)(d:0<Λ.length):Gb F (found++[left]):=by have hi:=h.cb.ends Z (by rw[rK];exact b) (by rw[rK];exact d);refine⟨fun g a=>?_,fun t=>?_⟩;rcases fo.1 a with a|a;exact⟨h.fp g a,h.cb.iz _ (ko.2 ⟨g,a,rfl⟩)⟩;(obtain rfl:g=left:=by simpa using a);exact⟨h.lp,hi⟩;rw[pj,h.cb.eq t];exact(oI (fs found) (fun t=>ev t left) t).symm
def Iz.len{g:ae}(a:Pp g)(h:Iz (fun t=>ev t g)):2≤g.length:=by refine kQ fun b=>h.2.2.1 ?_;have c:=bR.2 a.ne;have:=a.tr.dm a.ne;rwa[show g.length-1=0 by omega]at this
def G9{F G S:ae}(q:F.length≤11)(a:Tr F)(l:Tr G)(c:Tr S)(i:F≠ [])(e:∀t,ev t F=ev t G*ev t S)(j:Nat):((G.getD j 0).natAbs:Int)≤1024*eT F∧G.length≤F.length:=by
 have k:G≠ []:=fun h=>i (a.zero fun t=>VD);have hS:S≠ []:=fun h=>i (a.zero fun t=>VD);have g0:=bR.2 k;have r:=bR.2 hS;obtain⟨_,s,u⟩:=m_ a l c k hS e;have v:=J3 (f:=F) (g:=G) (h:=S) (n:=F.length-1) (m:=G.length-1) (d:=S.length-1) o o o o e j;have w:S.getD (S.length-1) 0≠0:=oG c hS;have x:(G.getD j 0).natAbs≤(S.getD (S.length-1) 0*G.getD j 0).natAbs:=by rw[eX];exact YE _ o
 have p:(2:Int)^(F.length-1)≤1024:=by have:(2:Nat)^(F.length-1)≤2^10:=cI J o;have b:((2^(F.length-1):Nat):Int)≤((2^10:Nat):Int):=Int.ofNat_le.2 this;rw[Gl]at b;exact b
 have b:=l_ p (show 0≤(eT F:Int) by omega);exact⟨o,o⟩
def Ws{l:ae}{B:Nat}(h:∀j,(l.getD j 0).natAbs≤B):eT l≤l.length*B:=by
 induction l with
 |nil=>simp[eT]
 |cons a l b=>have c:=h 0;(have d:=b fun j=>by have:=h (j+1);simpa using this);simp only[eT,kO,UL]at*;rw[nN];omega
def pN(l:ae):ae:=eg (l.length-1) fun k=>l.getD (k+1) 0*((k+1:Nat):Int)
def tf(l:ae)(k:Nat):(pN l).getD k 0=(k+1)*l.getD (k+1) 0:=by unfold pN;rw[cB];split;rw[bm];simp;rw[au (show l.length≤k+1 by omega)];simp
def Br(l:ae):Dr (fun t=>ev t l) (fun t=>ev t (pN l)):=Dr.t_ (tf l)
def Au(l:ae):(pN l).length=l.length-1:=by unfold pN;rw[eJ]
def TH{l:ae}(h:Tr l):Tr (pN l):=by
 intro b;have a:=bR.2 b;rw[Au]at a ⊢;rw[tf];have c:l≠ []:=by intro e;subst e;simp at a
 have d:l.getD (l.length-1-1+1) 0≠0:=by rw[show l.length-1-1+1=l.length-1 by omega];exact h c
 exact tN o d
structure FE(f q:ae):Prop where
 pp:Pp q
 div:∃G,Pp G∧∀t,ev t f=ev t G*ev t q
 all:∀r,qU 0 r→Dv 0 r (fun t=>ev t f)→Dv 0 r (fun t=>ev t q)
 one:∀q',Dr (fun t=>ev t q) q'→∀r,qU 0 r→Dv 0 r (fun t=>ev t q)→Dv 0 r q'→False
def FE.of{f G:ae}(a:Pp f)(c:G=gW (f.length+(aH (pN f)).length) f (aH (pN f))):Pp G∧∃Q,jN G (f.length+1-G.length) f=some Q∧FE f (tz Q):=by
 have ts:=TH a.tr;have b:Pp G:=by rw[c];exact GU _ a.tr ts.aH a.pr (jY ts) (Z _) (.inl a.ne)
 have d:∀r:Int→Int,(Dv 0 r (fun t=>ev t f)∧Dv 0 r (fun t=>ev t (pN f)))↔Dv 0 r (fun t=>ev t G):=fun r=>by rw[c,←F3 _ a.tr ts.aH (Z _) r,PI ts]
 have e:=(d (fun t=>ev t G)).2 (Dv.refl cq.zero _);obtain⟨s,g,h⟩:=b.prm.Wc (Po.ev f) e.1;obtain⟨Q,hQ⟩:=NX a.tr b.tr b.ne g h;have he:∀t,ev t f=ev t G*ev t (tz Q):=fun t=>WC;obtain⟨i,q2⟩:=aaR (Br f) (a.tr.dm a.ne) (Po.ev G) (Po.ev (tz Q)) (fun r _=>d r) he;exact⟨b,Q,hQ,a.quot b (eS Q) he,⟨G,b,he⟩,i,q2⟩
def FE.PG{f q:ae}(h:FE f q):ku 0 (fun t=>ev t q) (fun t=>ev t (pN q)):=afv cq.zero (Po.ev q) (Po.ev _) (h.pp.tr.dm h.pp.ne).not fun r a b c=>h.one _ (Br q) r a b c
def ku.sq{p:Nat}{F:ae}(h:ku p (fun t=>ev t F) (fun t=>ev t (pN F))):Sq p (fun t=>ev t F):=by obtain⟨u,v,c,a,b,d,e⟩:=h;exact⟨_,u,v,c,Br F,a,b,d,e⟩
def pE:List (ae×Nat)→Int→Int
| []=>fun _=>1
|x::l=>fun t=>ev t x.1^x.2*pE l t
def FK:∀(l:List (ae×Nat)) (x:ae×Nat) (t:Int),pE (l++[x]) t=pE l t*ev t x.1^x.2
| [],x,t=>Ml
|y::l,x,t=>by show ev t y.1^y.2*pE (l++[x]) t=ev t y.1^y.2*pE l t*ev t x.1^x.2;rw[FK l x t,bB]
def CL:∀l:List (ae×Nat),Po (pE l)
| []=>Po.const 1
|x::l=>((Po.ev x.1).pow x.2).mul (CL l)
structure Dp(f g left:ae)(c:Nat):Prop where
 pp:Pp left
 eq:∀t,ev t f=ev t g^c*ev t left
 lt:left.length+c≤f.length
def Dp.start{f g:ae}(h:Pp f):Dp f g f 0:=⟨h,fun t=>Y,o⟩
def Dp.next{f g left Q:ae}{c m:Nat}(h:Dp f g left c)(a:Pp g)(d:2≤g.length)(hQ:jN g m left=some Q):Dp f g (tz Q) (c+1):=by have he:∀t,ev t left=ev t g*ev t (tz Q):=fun t=>WC;have b:=h.pp.quot a (eS Q) he;have:=(m_ h.pp.tr a.tr b.tr a.ne b.ne he).2.1;have e:=h.lt;exact⟨b,fun t=>by rw[h.eq,he,bW,bB],o⟩
def Dp.ends{f g left:ae}{c:Nat}(h:Dp f g left c)(a:Pp g)(d:jN g (left.length+1-g.length) left=none):¬Dv 0 (fun t=>ev t g) (fun t=>ev t left):=fun e=>by obtain⟨s,i,j⟩:=a.prm.Wc (Po.ev left) e;obtain⟨Q,b⟩:=NX h.pp.tr a.tr a.ne i j;rw[d]at b;cases b
def Kv(P:List (ae)):Prop:=P.Pairwise fun a b=>¬Dv 0 (fun t=>ev t a) (fun t=>ev t b)∧¬Dv 0 (fun t=>ev t b) (fun t=>ev t a)
def qU.back{m:Int}{r g:Int→Int}(a:qU m r)(e:qU m g)(h:Dv m r g):Dv m g r:=by obtain⟨c,s,f,i,d⟩:=h;rcases e.2.2.2 r s c a.1 i f d with b|b;exact absurd b a.2.2.1;obtain⟨k,j,l⟩:=b.zero;refine⟨k,fun _=>c,j,Po.const c,(d.add (l.mul a.1)).neg.congr fun t=>?_⟩;dsimp only;rw[ek,bm (r t) k,bm (g t) c];omega
def IY{q g h R:Int→Int}(i:∀a,Dr q a→∀r,qU 0 r→Dv 0 r q→Dv 0 r a→False)(j:Po q)(b:qU 0 g)(l:Po h)(d:Po R)(e:∀t,q t=g t*(h t*R t)):¬Dv 0 g h:=by intro⟨c,s,m,n,p⟩;obtain⟨a,f⟩:=j.dr;(have u:∀t,c*h t=g t*s t:=fun t=>by have:=p.Sw t;omega);have hc:c≠0:=dS.1 m;have v:=(qU.MH b f (e:=2) (k:=c) (s:=fun t=>s t*R t) hc (n.mul d) (fun t=>by rw[e,bW,lG];have:=u t;rw[show c*(g t*(h t*R t))=g t*(c*h t)*R t by simp only[rZ],this];simp only[rZ])).1 o;refine i a f g b ?_ ?_;exact Dv.of_eq 0 cq.zero (l.mul d) e;obtain⟨k,s',w,x,y⟩:=v;exact⟨k,s',w,x,y.congr fun t=>by show _=k*a t-g t^1*s' t;rw[lG]⟩
def Gb.apart{f q:ae}{P:List (ae)}(d:FE f q)(h:Gb q P):Kv P:=by
 have key:∀(A B C:List (ae)) (a b:ae),P=A++a::(B++b::C)→¬Dv 0 (fun t=>ev t a) (fun t=>ev t b)∧¬Dv 0 (fun t=>ev t b) (fun t=>ev t a):=by intro A B C a b e;have j:=(h.mem a W_).2;have c:=(h.mem b W_).2;have g:Po (fun t=>pA (fs A) t*(pA (fs B) t*pA (fs C) t)):=(ke _ (nI A)).mul ((ke _ (nI B)).mul (ke _ (nI C)));(have i:∀t,ev t q=pA (fs A) t*(ev t a*(pA (fs B) t*(ev t b*pA (fs C) t))):=fun t=>by rw[h.eq,e];rw[pj,lQ];show _*(ev t a*pA (fs (B++b::C)) t)=_;rw[pj,lQ];rfl);refine⟨IY d.one (Po.ev q) j.Nv (Po.ev b) g fun t=>?_,IY d.one (Po.ev q) c.Nv (Po.ev a) g fun t=>?_⟩;rw[i];simp only[rZ];rw[i];simp only[rZ]
 unfold Kv;have:∀(A B:List (ae)),P=A++B→B.Pairwise fun a b=>¬Dv 0 (fun t=>ev t a) (fun t=>ev t b)∧¬Dv 0 (fun t=>ev t b) (fun t=>ev t a):=by
  intro A B;induction B generalizing A with
  |nil=>intro _;exact List.Pairwise.nil
  |cons a B k=>intro e;refine List.Pairwise.cons (fun b c=>?_) (k (A++[a]) W_);obtain⟨l,m,rfl⟩:=FX c;exact key A l m a b e
 exact this [] P rfl
structure Nt(f:ae)(P:List (ae))(i:Nat)(ps:List (ae×Nat))(left:ae):Prop where
 pp:Pp left
 eq:∀t,ev t f=pE ps t*ev t left
 map:ps.map Prod.fst=P.take i
 pos:∀x,x∈ps→1≤x.2∧¬Dv 0 (fun t=>ev t x.1) (fun t=>ev t left)
def Nt.start{f:ae}(P:List (ae))(h:Pp f):Nt f P 0 [] f:=⟨h,fun t=>Ml,rfl,fun x a=>by cases a⟩
def XD{r:Int→Int}(b:qU 0 r):∀ps:List (ae×Nat),Dv 0 r (pE ps)→∃x,x∈ps∧Dv 0 r (fun t=>ev t x.1)
| [],h=>by exfalso;obtain⟨k,s,c,a,e⟩:=h;obtain⟨d,g,f⟩:=b.Ef;have:Dv 0 r (fun _=>1):=⟨k,s,c,a,e.congr fun t=>Ml⟩;obtain⟨_,_,j,_,_,i,_⟩:=this.Ef cq.zero f (Dm.ig (m:=0) (Ld.const 1) J);omega
|x::ps,h=>by
 rcases b.zG cq.zero ((Po.ev x.1).pow x.2) (CL ps) h with c|c;refine⟨x,dh ..,?_⟩;have:∀n,Dv 0 r (fun t=>ev t x.1^n)→Dv 0 r (fun t=>ev t x.1):=by
  intro n;induction n with
  |zero=>intro h;obtain⟨d,g,f⟩:=b.Ef;obtain⟨k,s,g1,g2,g3⟩:=h;have:Dv 0 r (fun _=>1):=⟨k,s,g1,g2,g3.congr fun t=>Y⟩;obtain⟨_,_,j,_,_,i,_⟩:=this.Ef cq.zero f (Dm.ig (m:=0) (Ld.const 1) J);omega
  |succ n l=>intro h;have p:Dv 0 r (fun t=>ev t x.1^n*ev t x.1):=h.alike (Zm.aq _ fun t=>by rw[bW];omega);rcases b.zG cq.zero ((Po.ev x.1).pow n) (Po.ev x.1) p with a|a;exact l a;exact a
 exact this _ c;obtain⟨y,a,e⟩:=XD b ps c;exact⟨y,eh _ a,e⟩
def aoa{r:Int→Int}(a:qU 0 r):∀P:List (ae),Dv 0 r (pA (fs P))→∃g,g∈P∧Dv 0 r (fun t=>ev t g):=by
 intro P h;obtain⟨x,b,c⟩:=XD a (P.map fun g=>(g,1)) (h.alike (Zm.aq _ fun t=>by
  have:∀P:List (ae),pE (P.map fun g=>(g,1)) t=pA (fs P) t:=by
   intro P;induction P with
   |nil=>rfl
   |cons g P d=>show ev t g^1*pE (P.map fun g=>(g,1)) t=ev t g*pA (fs P) t;rw[d,lG]
  rw[this];omega))
 obtain⟨g,e,rfl⟩:=ko.1 b;exact⟨g,e,c⟩
def ac5{g:ae}{P:List (ae)}(h:g∈P):Dv 0 (fun t=>ev t g) (pA (fs P)):=(Pm (m:=0) (fs P) _ (nI P) (ko.2 ⟨g,h,rfl⟩)).dv cq.zero
def Nt.next{f q:ae}{P:List (ae)}{i:Nat}{ps:List (ae×Nat)}{left l g:ae}{c:Nat}(h:Nt f P i ps left)(A:FE f q)(v:Gb q P)(B:Kv P)(e:P[i]?=some g)(k:Dp left g l c)(w:¬Dv 0 (fun t=>ev t g) (fun t=>ev t l)):Nt f P (i+1) (ps++[(g,c)]) l:=by
 have y:=cN e;have b:=(v.mem g y).2.Nv;have m:i<P.length:=(eQ.1 e).1;have n:∀x,x∈ps→¬Dv 0 (fun t=>ev t g) (fun t=>ev t x.1)∧¬Dv 0 (fun t=>ev t x.1) (fun t=>ev t g):=fun x a=>by(have p:x.1∈P.take i:=by rw[←h.map];exact ko.2 ⟨x,a,rfl⟩);obtain⟨j,r⟩:=vA p;(have z:j<i:=by have:=(eQ.1 r).1;rw[mN]at this;omega);rw[mP z]at r;have d:=NI.1 B j i o m z;have C:P[j]'ab=x.1:=(eQ.1 r).2;have D:P[i]=g:=(eQ.1 e).2;rw[C,D]at d;exact⟨d.2,d.1⟩
 refine⟨k.pp,fun t=>by rw[FK,h.eq,k.eq];simp only[rZ],by rw[rp,h.map,nL,e];simp,fun x a=>?_⟩;rcases fo.1 a with a|a;refine⟨(h.pos x a).1,fun E=>(h.pos x a).2 ?_⟩;refine(E.mul ((Po.ev g).pow c)).alike (Zm.aq _ fun t=>?_);rw[k.eq];omega;obtain rfl:x=(g,c):=by simpa using a
 refine⟨?_,w⟩;refine Nat.one_le_iff_ne_zero.2 fun F=>w ?_;have s:c=0:=F;subst s;have p:Dv 0 (fun t=>ev t g) (fun t=>ev t q):=(ac5 y).alike (Zm.aq _ fun t=>by rw[v.eq];omega);obtain⟨G,I,he⟩:=A.div;have d:Dv 0 (fun t=>ev t g) (fun t=>pE ps t*ev t left):=(p.mul (Po.ev G)).alike (Zm.aq _ fun t=>by rw[←h.eq,he];omega);rcases b.zG cq.zero (CL ps) (Po.ev left) d with u|u;obtain⟨x,a,H⟩:=XD b ps u;exact absurd H (n x a).1;exact u.alike (Zm.aq _ fun t=>by rw[k.eq];simp)
def Nt.ends{f q:ae}{P:List (ae)}{ps:List (ae×Nat)}{left:ae}(h:Nt f P P.length ps left)(i:FE f q)(d:Gb q P)(t:Int):ev t f=pE ps t:=by
 have a:=h.map;rw[cY]at a;have j:left.length=1:=by refine kQ fun u=>?_;have v:=bR.2 h.pp.ne;obtain⟨r,b,e⟩:=KE cq.zero _ (h.pp.tr.dm h.pp.ne) o;have k:Dv 0 r (fun t=>ev t f):=(e.mul (CL ps)).alike (Zm.aq _ fun t=>by rw[h.eq];omega);have l:=i.all r b k;obtain⟨g,c,m⟩:=aoa b P (l.alike (Zm.aq _ fun t=>by rw[d.eq];omega));have n:=b.back (d.mem g c).2.Nv m;rw[←a]at c;obtain⟨x,p,rfl⟩:=ko.1 c;exact(h.pos x p).2 (n.trans cq.zero e)
 have s:left=[1]:=by
  have w:=h.pp.pr;have hc:=(wZ h.pp.tr h.pp.ne h.pp.pr).1;have gw:=h.pp.lead;match left,j,hc,gw with
  | [x],_,hc,gw=>exact T57
 rw[h.eq,s];simp[ev]
end Go.Proofs.YtldcjkhbiffdoaaGreatDoor
