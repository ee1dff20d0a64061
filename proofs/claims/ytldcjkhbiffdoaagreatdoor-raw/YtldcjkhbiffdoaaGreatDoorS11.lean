import Derived.Test.YtldcjkhbiffdoaaGreatDoorS10
set_option maxRecDepth 100000
set_option maxHeartbeats 40000000
set_option linter.unusedSimpArgs false
set_option linter.defProp false
namespace Go.Proofs.YtldcjkhbiffdoaaGreatDoor
open Go.RowKit Go.Proofs.Tryz
def z_(d:Nat→Int→Int):Nat→Int→Int
|0=>fun _=>1
|n+1=>fun t=>z_ d n t*d n t
def ku.di{p:Nat}{a b d e:Int→Int}(h:ku p a b)(f:Di p d a)(g:Di p e b):ku p d e:=by obtain⟨u,v,c,g1,g2,g3,g4⟩:=h;obtain⟨s,i,j⟩:=f;obtain⟨r,k,l⟩:=g;refine⟨fun t=>u t*s t,fun t=>v t*r t,c,g1.mul i,g2.mul k,g3,((g4.sub (j.mul g1)).sub (l.mul g2)).congr fun t=>?_⟩;show u t*s t*d t+v t*r t*e t-c=u t*a t+v t*b t-c-u t*(a t-d t*s t)-v t*(b t-e t*r t);simp only[rZ];omega
def H_(v:Int→Int)(a:Po v)(n:Nat):Po (fun t=>less n (v t)):=(Ft n).po.comp a
def JO{p:Nat}(b:cq (p:Int)){v:Int→Int}(a:Po v){N:Nat}(c:N<p):∀n,n≤N→ku p (fun t=>less n (v t)) (fun t=>v t-N)
|0,_=>⟨fun _=>1,fun _=>0,1,Po.const 1,Po.zero,b.2,Zm.aq _ fun t=>by simp[less]⟩
|n+1,f=>by have d:=JO b a c n o;(have e:ku p (fun t=>v t-n) (fun t=>v t-N):=by refine⟨fun _=>1,fun _=>-1,(N:Int)-n,Po.const 1,Po.const (-1),fun h=>?_,Zm.aq _ fun t=>by show 1*(v t-(n:Int))+-1*(v t-(N:Int))-((N:Int)-n)=0;omega⟩;have:=Cs h OM;omega);exact ku.mul b (H_ v a n) (a.sub (Po.const _)) d e (a.sub (Po.const _))
def L7{p:Nat}(g:2≤p)(b:cq (p:Int)){u:Int→Int}(hu:Po u){l:ae}(h:∀a,a∈l→0≤a)(i:Di p u (fun t=>ev (t^p) l-ev t l)){d:Nat→Int→Int}(f:∀k,k<p→Po (d k)∧Di p (d k) u∧Di p (d k) (fun t=>ev t l-k)∧∃α β,Po α∧Po β∧Zm p (fun t=>α t*u t+β t*(ev t l-k)-d k t)):Di p (z_ d p) u∧Di p u (z_ d p):=by
 have c:=Po.ev l;have j:∀n,n≤p→Di p (z_ d n) u∧Di p (z_ d n) (fun t=>less n (ev t l)):=by
  intro n;induction n with
  |zero=>intro _;exact⟨Di.of_eq hu fun t=>by simp[z_],Di.of_eq (Po.const 1) fun t=>by simp[z_,less]⟩
  |succ n e=>intro m;obtain⟨i1,i2⟩:=e o;obtain⟨g1,g2,g3,_⟩:=f n o;have hc:ku p (z_ d n) (d n):=(JO b c (N:=n) o n (Z _)).di i2 g3;refine⟨Di.both o b g1 hc i1 g2,?_⟩;have q:Di p (z_ d n) (fun t=>less (n+1) (ev t l)):=(i2.mul (c.sub (Po.const n))).alike (Zm.aq _ fun t=>by show less n (ev t l)*(ev t l-n)-(ev t l-n)*less n (ev t l)=0;rw[bm];omega);have r:Di p (d n) (fun t=>less (n+1) (ev t l)):=g3.mul (H_ _ c n);exact Di.both o b g1 hc q r
 have s:∀n,n≤p→∃β,Po β∧Di p u (fun t=>z_ d n t-β t*less n (ev t l)):=by
  intro n;induction n with
  |zero=>intro _;exact⟨fun _=>1,Po.const 1,Di.mR (Zm.aq _ fun t=>by simp[z_,less])⟩
  |succ n e=>intro m;obtain⟨β,b1,b2⟩:=e o;obtain⟨g1,_,_,α,γ,g2,g3,g4⟩:=f n o;refine⟨fun t=>β t*γ t,b1.mul g3,?_⟩;have v:Di p u (fun t=>d n t-γ t*(ev t l-n)):=⟨α,g2,(g4.neg).congr fun t=>by show d n t-γ t*(ev t l-n)-u t*α t=-(α t*u t+γ t*(ev t l-n)-d n t);rw[bm (u t)];omega⟩;refine((b2.mul g1).add (v.mul (b1.mul (H_ _ c n)))).alike (Zm.aq _ fun t=>?_);show z_ d n t*d n t-β t*γ t*(less n (ev t l)*(ev t l-n))-(d n t*(z_ d n t-β t*less n (ev t l))+β t*less n (ev t l)*(d n t-γ t*(ev t l-n)))=0;simp only[rZ];omega
 refine⟨(j p (Z _)).1,?_⟩;obtain⟨β,b1,b2⟩:=s p (Z _);have w:Di p u (fun t=>less p (ev t l)):=i.alike (QB g b h);exact(b2.add (w.mul b1)).alike (Zm.aq _ fun t=>o)
def TK{p:Nat}(c:cq (p:Int)){A B:Int→Int}{a b:Nat}(d:Ld a 1 A)(n:Ld b 1 B)(q:Di p A B)(v:Di p B A):Zm p (fun t=>A t-B t):=by
 have h:Dm p a A:=Dm.ig d c.2;have e:Dm p b B:=Dm.ig n c.2;obtain⟨_,_,j,_,_,C,_⟩:=(q.dv c).Ef c h e;obtain⟨_,_,D,_,_,E,_⟩:=(v.dv c).Ef c e h;obtain rfl:a=b:=o;obtain⟨s,w,l⟩:=q;obtain⟨N,x⟩:=w;have y:Dm p 0 s:=by rcases Zm.jS (m:=p) x with f|⟨i,_,f⟩;exact absurd ((l.add (f.mul d.po)).congr (g:=B) fun t=>o) e.not;have:=((h.mul c f).alike (g:=B) l).uniq e;rwa[show i=0 by omega]at f
 obtain⟨k,F,z⟩:=y.zero;have r:Zm p (fun t=>B t-k*A t):=(l.add (z.mul d.po)).congr fun t=>by show B t-k*A t=B t-A t*s t+A t*(s t-k);rw[ek,bm k];omega
 have u:=r.lead (n.sub (d.aO k));rw[kJ]at u;refine(r.neg.add (Zm.of_dvd d.po u)).congr fun t=>?_;rw[im];omega
def tl:ae→List (ae)→ae
|a::v,r::R=>fk (r.map fun x=>a*x) (tl v R)
|_,_=> []
def Mw:∀(v:ae) (R:List (ae)) (n:Nat),(∀r,r∈R→r.length≤n)→(tl v R).length≤n
| [],R,n,_=>by simp[tl]
|a::v,[],n,_=>by simp[tl]
|a::v,r::R,n,h=>nM _ _ _ (by simpa using h r (dh ..)) (Mw v R n fun x b=>h x (eh _ b))
def adw{p:Nat}{f:Int→Int}:∀(v:ae) (R:List (ae)) (i0:Nat),v.length≤R.length→(∀i r,R[i]?=some r→Di p f (fun t=>t^(p*(i0+i))-ev t r))→Di p f (fun t=>t^(p*i0)*ev (t^p) v-ev t (tl v R))
| [],R,i0,_,_=>Di.mR (Zm.aq _ fun t=>by simp[tl,ev])
|a::v,[],i0,h,_=>cT
|a::v,r::R,i0,h,b=>by have c:=adw (p:=p) (f:=f) v R (i0+1) dN fun i d e=>(b (i+1) d (by simpa using e)).alike (Zm.aq _ fun t=>by rw[show i0+1+i=i0+(i+1) by omega];omega);have g:=b 0 r rfl;refine((g.mul (Po.const a)).add c).alike (Zm.aq _ fun t=>?_);simp only[tl,ev,dM,bs];rw[LX,yQ,Fp,iF];generalize t^(p*i0)=x;generalize t^p=y;simp only[rZ];omega
def aaE{p n:Nat}(d:cq (p:Int)){f:Int→Int}(u:Dm p n f){R:List (ae)}(D:R.length=n)(hlen:∀r,r∈R→r.length≤n)(w:∀i r,R[i]?=some r→Di p f (fun t=>t^(p*i)-ev t r)){v:ae}(y:v.length≤n):Fix p f v↔∀k,(p:Int)∣(tl v R).getD k 0-v.getD k 0:=by
 have q:=adw (p:=p) (f:=f) v R 0 o fun i r z=>(w i r z).alike (Zm.aq _ fun t=>by rw[pH];omega);have A:Pl n (fun t=>ev t (fk (tl v R) (v.map fun x=>-1*x))):=⟨_,nM _ _ n (Mw v R n hlen) (by simpa using y),fun _=>rfl⟩;have KX:∀t,ev t (fk (tl v R) (v.map fun x=>-1*x))=ev t (tl v R)-ev t v:=fun t=>WN;constructor;intro h k;have B:Di p f (fun t=>ev t (fk (tl v R) (v.map fun x=>-1*x))):=(Di.sub h q).alike (Zm.aq _ fun t=>by rw[KX,GJ];simp;omega);have c:Zm p (fun t=>ev t (fk (tl v R) (v.map fun x=>-1*x))):=by rcases Zm.jS (m:=p) A with b|⟨e,he,b⟩;exact b;obtain⟨_,_,j,_,_,s,_⟩:=(B.dv d).Ef d u b;omega
 obtain⟨g,⟨N,G,_,b⟩,s⟩:=c;have C:=mG (l:=fk (tl v R) (v.map fun x=>-1*x)) (m:=G.map fun x=>(p:Int)*x) 0 (fun t _=>by rw[bs,←b];exact s t) k;rw[cG,aS,aS]at C;exact⟨G.getD k 0,o⟩;intro h;have c:Zm p (fun t=>ev t (fk (tl v R) (v.map fun x=>-1*x))):=by have:∀l:ae,(∀k,(p:Int)∣l.getD k 0)→Zm p (fun t=>ev t l):=T26;refine this _ fun k=>?_;rw[cG,aS];have:=h k;rwa[show(tl v R).getD k 0+-1*v.getD k 0=(tl v R).getD k 0-v.getD k 0 by omega]
 refine(q.add (Di.mR c)).alike (Zm.aq _ fun t=>?_);rw[KX,GJ];simp;omega
def dot:ae→ae→Int
|a::l,b::m=>a*b+dot l m
|_,_=>0
def uA{p:Nat}:∀(l m n:ae),(∀k,(p:Int)∣l.getD k 0-m.getD k 0)→(p:Int)∣dot l n-dot m n
| [],m,n,h=>by
 induction m generalizing n with
 |nil=>simp[dot]
 |cons b m g=>
  cases n with
  |nil=>simp[dot]
  |cons c n=>(have d:(p:Int)∣b:=by have:=h 0;simp at this;exact CN.1 (by simpa using this));have e:=g n fun k=>OF;(have f:dot [] (c::n)-dot (b::m) (c::n)=(dot [] n-dot m n)-b*c:=by simp only[dot];cases n<;>simp[dot]<;>omega);rw[f];exact oZ e (gH d (pO ..))
|a::l,m,[],h=>by cases m<;>simp[dot]
|a::l,[],c::n,h=>by
 have d:(p:Int)∣a:=by simpa using h 0
 have e:=uA l [] n fun k=>OF;have f:dot (a::l) (c::n)-dot [] (c::n)=a*c+(dot l n-dot [] n):=by simp only[dot];cases n<;>simp[dot]<;>omega
 rw[f];exact js (gH d (pO ..)) e
|a::l,b::m,c::n,h=>by
 have d:(p:Int)∣a-b:=by simpa using h 0
 have e:=uA l m n fun k=>OF;have f:dot (a::l) (c::n)-dot (b::m) (c::n)=(a-b)*c+(dot l n-dot m n):=by simp only[dot,im];omega
 rw[f];exact js (gH d (pO ..)) e
def Vd:∀(v:ae) (R:List (ae)) (k:Nat),v.length≤R.length→(tl v R).getD k 0=dot v (R.map fun r=>r.getD k 0)
| [],R,k,_=>Uv
|a::v,[],k,h=>cT
|a::v,r::R,k,h=>by simp only[tl,cG,aS,pK,dot];rw[Vd v R k dN]
def oo{p:Nat}{l m:ae}(h:Zm p (fun t=>ev t l-ev t m))(k:Nat):(p:Int)∣l.getD k 0-m.getD k 0:=by obtain⟨g,⟨N,G,_,b⟩,c⟩:=h;have d:=mG (l:=fk l (m.map fun x=>-1*x)) (m:=G.map fun x=>(p:Int)*x) 0 (fun t _=>by have a:ev t l-ev t m=p*g t:=c t;rw[dM,bs,bs,←b,←a];omega) k;rw[cG,aS,aS]at d;exact⟨G.getD k 0,o⟩
def lq(p:Nat)(l:ae):Prop:=∀k,0≤l.getD k 0∧l.getD k 0<p
def gi(p:Nat)(l:ae):Prop:=lq p l∧Tr l
def lq.nil{p:Nat}(a:0<p):lq p []:=fun k=>aZ
def lq.tz{p:Nat}{l:ae}(h:lq p l):gi p (tz l):=⟨fun k=>by rw[bN];exact h k,eS l⟩
def lq.mem{p:Nat}{l:ae}(h:lq p l):∀a,a∈l→0≤a∧a<p:=by intro a b;obtain⟨i,hi⟩:=vA b;have:=h i;rwa[List.getD,hi]at this
def lq.zi{p:Nat}(c:0<p){l:ae}(h:∀a,a∈l→0≤a∧a<p):lq p l:=by intro k;rcases aX k l.length with b|b;have:=h _ (jl b);rwa[List.getD,cj b];rw[au b];omega
def lq.set{p:Nat}{l:ae}(h:lq p l)(k:Nat){y:Int}(b:0≤y)(c:y<p):lq p (l.set k y):=by intro j;by_cases a:k=j;subst a;rcases aX k l.length with h2|h2;simp[List.getD,tM h2];omega;rw[au FZ];omega;(have:(l.set k y).getD j 0=l.getD j 0:=by simp[List.getD,rP a]);rw[this];exact h j
def lq.tI{p:Nat}(a:0<p)(n:Nat):lq p (List.replicate n 0):=by intro k;have:(List.replicate n (0:Int)).getD k 0=0:=aly;rw[this];omega
def lq.take{p:Nat}(b:0<p){l:ae}(h:lq p l)(n:Nat):lq p (l.take n):=lq.zi b fun a c=>h.mem a (s8 c)
def lq.eg{p:Nat}(a:0<p)(n:Nat)(f:Nat→Int):lq p (eg n fun k=>f k%p):=by intro k;rw[cB];split;exact⟨gu _ o,ik _ o⟩;omega
def Zm.t_{p:Nat}{l m:ae}(h:∀k,(p:Int)∣l.getD k 0-m.getD k 0):Zm p (fun t=>ev t l-ev t m):=by have:∀l:ae,(∀k,(p:Int)∣l.getD k 0)→Zm p (fun t=>ev t l):=T26;refine(this (fk l (m.map fun x=>-1*x)) fun k=>?_).congr fun t=>WN;rw[cG,aS,show l.getD k 0+-1*m.getD k 0=l.getD k 0-m.getD k 0 by omega];exact h k
def ew(a:Int)(p:Nat):(p:Int)∣a%p-a:=⟨-(a/p),alM⟩
def gi.ld{p:Nat}{l:ae}(h:gi p l)(a:l≠ []):Ld (l.length-1) (lead l) (fun t=>ev t l)∧0<lead l∧lead l<p∧¬(p:Int)∣lead l:=by have e:=bR.2 a;have b:=h.1 (l.length-1);have c:=h.2 a;refine⟨Ld.eM o,by unfold lead;omega,b.2,fun d=>?_⟩;have:=Cs d (by rw[mv];unfold lead;omega);exact c this
def gi.dm{p:Nat}{l:ae}(h:gi p l)(a:l≠ []):Dm p (l.length-1) (fun t=>ev t l):=Dm.ig (h.ld a).1 (h.ld a).2.2.2
def gi.zm{p:Nat}{l:ae}(h:gi p l):Zm p (fun t=>ev t l)↔l=[]:=by refine⟨fun a=>kQ fun b=>(h.dm b).not a,fun e=>by subst e;exact Zm.aq _ fun _=>rfl⟩
def wu(p:Nat)(a b:ae)(c:Int):ae:=tz (eg (max a.length b.length) fun k=>(a.getD k 0+((p:Int)-c)*b.getD k 0)%p)
def GK{p:Nat}(d:0<p)(a b:ae)(c:Int):gi p (wu p a b c):=(lq.eg d _ _).tz
def Ap(p:Nat)(a b:ae)(c:Int):(wu p a b c).length≤max a.length b.length:=by refine fY fun k d=>?_;rw[cB,U o]
def FH{p:Nat}(a b:ae)(c:Int):Zm p (fun t=>ev t (wu p a b c)-(ev t a-c*ev t b)):=by(have d:Zm p (fun t=>ev t (wu p a b c)-ev t (fk a (b.map fun x=>((p:Int)-c)*x))):=by refine Zm.t_ fun k=>?_;unfold wu;rw[bN,cB,cG,aS];split;exact ew _ p;rw[au (show a.length≤k by omega),au (show b.length≤k by omega)];simp);refine(d.add (Zm.of_dvd (Po.ev b) (nQ _))).congr fun t=>?_;rw[dM,bs,im];omega
def RN(p:Nat)(a b P:ae)(i j:Nat):Prop:=lq p P∧Zm p (fun t=>ev t P-(ev t (a.take i)*ev t b+a.getD i 0*t^i*ev t (b.take j)))
def RN.start{p:Nat}(c:0<p)(a b:ae)(n:Nat):RN p a b (List.replicate n 0) 0 0:=⟨lq.tI c n,Zm.aq _ fun t=>by rw[nX];simp[ev]⟩
def RN.step{p:Nat}(l:0<p){a b P:ae}{i j:Nat}{x y z:Int}(h:RN p a b P i j)(c:i+j<P.length)(d:P.getD (i+j) 0=z)(e:a.getD i 0=x)(f:b.getD j 0=y):RN p a b (P.set (i+j) ((z+x*y)%p)) i (j+1):=by obtain⟨g,k⟩:=h;refine⟨g.set _ (gu _ o) (ik _ o),?_⟩;refine(k.add (Zm.of_dvd (Po.mW (i+j)) (ew (z+x*y) p))).congr fun t=>?_;rw[yP _ _ _ _ c,dC t b j,d,e,f,iF];generalize t^i=u;generalize t^j=v;generalize(z+x*y)%(p:Int)=q;simp only[rZ];omega
def RN.O{p:Nat}{a b P:ae}{i:Nat}(h:RN p a b P i b.length):RN p a b P (i+1) 0:=by obtain⟨c,d⟩:=h;refine⟨c,d.congr fun t=>?_⟩;rw[cY,dC,tu];simp only[ev,jw,nY,c_]
def RN.ends{p:Nat}{a b P:ae}(h:RN p a b P a.length 0):gi p (tz P)∧Zm p (fun t=>ev t (tz P)-ev t a*ev t b):=by obtain⟨c,d⟩:=h;refine⟨c.tz,d.congr fun t=>?_⟩;rw[kL,cY,tu];simp[ev]
structure Zj(p:Nat)(a b R Q:ae)(K:Nat):Prop where
 rr:lq p R
 rq:lq p Q
 qz:∀j,j<K→Q.getD j 0=0
 hi:∀j,K+b.length-1≤j→R.getD j 0=0
 eq:Zm p (fun t=>ev t R-(ev t a-ev t Q*ev t b))
structure DvO(p:Nat)(a b R Q:ae)(k i:Nat)(c x:Int):Prop where
 rr:lq p R
 rq:lq p Q
 qz:∀j,j<k→Q.getD j 0=0
 hi:∀j,k+b.length≤j→R.getD j 0=0
 top:R.getD (k+b.length-1) 0=if i<b.length then x else 0
 c0:0≤c
 c1:c<p
 eq:Zm p (fun t=>ev t R-(ev t a-ev t Q*ev t b+c*t^k*(ev t b-ev t (b.take i))))
def Zj.start{p:Nat}(c:0<p){a b:ae}(d:lq p a)(e:b≠ [])(h:b.length≤a.length):Zj p a b a (List.replicate (a.length+1-b.length) 0) (a.length+1-b.length):=by have f:=bR.2 e;refine⟨d,lq.tI c _,fun j _=>?_,fun j g=>au o,Zm.aq _ fun t=>by rw[nX];omega⟩;simp only[List.getD,vG];split<;>rfl
def Zj.level{p:Nat}(n:0<p){a b R Q:ae}{k:Nat}(h:Zj p a b R Q (k+1))(f:b≠ [])(g:k<Q.length)(s x:Int)(i:R.getD (k+b.length-1) 0=x):DvO p a b R (Q.set k (x*s%p)) k 0 (x*s%p) x:=by have l:=bR.2 f;have d:0≤x*s%p:=gu _ o;have e:x*s%p<p:=ik _ o;refine⟨h.rr,h.rq.set k d e,fun j m=>?_,fun j m=>h.hi j o,by rw[V l];exact i,d,e,h.eq.congr fun t=>?_⟩;(have:(Q.set k (x*s%p)).getD j 0=Q.getD j 0:=by simp[List.getD,rP (show k≠j by omega)]);rw[this];exact h.qz j o;rw[yP _ _ _ _ g,h.qz k o,tu];generalize x*s%(p:Int)=c;generalize t^k=u;simp only[ev];simp only[rZ];omega
def CY(R:ae)(i:Nat)(y:Int)(j:Nat):(R.set i y).getD j 0=if i=j∧i<R.length then y else R.getD j 0:=by by_cases h:i=j;subst h;rcases aX i R.length with h1|h1;rw[V ⟨rfl,h1⟩];simp[List.getD,tM h1];rw[U o,au l9,au h1];rw[U (fun a=>h a.1)];simp[List.getD,rP h]
def DvO.step{p:Nat}(F:0<p){a b R Q:ae}{k i:Nat}{c x z y s:Int}(h:DvO p a b R Q k i c x)(hi:i<b.length)(l:k+i<R.length)(e:R.getD (k+i) 0=z)(f:b.getD i 0=y)(hc:c=x*s%p)(m:(p:Int)∣lead b*s-1):DvO p a b (R.set (k+i) ((z+((p:Int)-c)*y)%p)) Q k (i+1) c x:=by
 have n:0≤(z+((p:Int)-c)*y)%p:=gu _ o;have r:(z+((p:Int)-c)*y)%p<p:=ik _ o;refine⟨h.rr.set _ n r,h.rq,h.qz,fun j w=>?_,?_,h.c0,h.c1,?_⟩;rw[CY,U o];exact h.hi j w;rw[CY];by_cases g:i+1<b.length;rw[U o,V g,h.top,V hi];rw[V o,U g];have A:k+i=k+b.length-1:=o;have B:z=x:=by rw[←e,A,h.top,V hi]
 have C:y=lead b:=by rw[←f];unfold lead;congr 1;omega
 subst B;refine ag9 ?_;obtain⟨q,G⟩:=m;have H:=sS (z*s) p;refine⟨y-z*q+(z*s/p)*y,?_⟩;have D:c=z*s-p*(z*s/p):=o;rw[D,C];have E:z*(lead b*s)=z*(p*q+1):=by congr 1;omega
 revert E;generalize z*s/(p:Int)=d;simp only[rZ];omega;refine(h.eq.add (Zm.of_dvd (Po.mW (k+i)) (ew (z+((p:Int)-c)*y) p))).add (Zm.of_dvd (c:=(p:Int)*y) (Po.mW (k+i)) (pO ..))|>.congr fun t=>?_;rw[yP _ _ _ _ l,dC t b i,e,f,iF];generalize t^k=u;generalize t^i=v;generalize(z+((p:Int)-c)*y)%(p:Int)=q;simp only[rZ];omega
def DvO.O{p:Nat}{a b R Q:ae}{k:Nat}{c x:Int}(h:DvO p a b R Q k b.length c x)(d:b≠ []):Zj p a b R Q k:=by have f:=bR.2 d;refine⟨h.rr,h.rq,h.qz,fun j g=>?_,h.eq.congr fun t=>?_⟩;rcases(show j=k+b.length-1∨k+b.length≤j by omega)with rfl|e;rw[h.top,U o];exact h.hi j e;rw[cY];simp
def BJ(l:ae):(tz l).length≤l.length:=by rw[gY];exact nP l l.length
structure DM(p:Nat)(a b q r:ae):Prop where
 nq:gi p q
 nr:gi p r
 lt:r.length<b.length
 ql:q.length≤a.length+1-b.length
 eq:Zm p (fun t=>ev t a-(ev t q*ev t b+ev t r))
def Zj.ends{p:Nat}(e:0<p){a b R Q:ae}(h:Zj p a b R Q 0)(f:b≠ [])(g:Q.length≤a.length+1-b.length):DM p a b (tz Q) (tz (R.take (b.length-1))):=by have i:=bR.2 f;refine⟨h.rq.tz,(h.rr.take e _).tz,?_,?_,?_⟩;have c:=BJ (R.take (b.length-1));have j:=List.length_take_le (b.length-1) R;omega;have:=gY Q;have:=nP Q Q.length;omega;have c:∀t,ev t (R.take (b.length-1))=ev t R:=fun t=>eB (fun k=>by rcases aX k (b.length-1)with d|d;simp[List.getD,mP d];rw[au mI,h.hi k o]) t;exact h.eq.neg.congr fun t=>by rw[kL,kL,c];omega
def DM.short{p:Nat}(c:0<p){a b:ae}(d:lq p a)(h:a.length<b.length):DM p a b [] (tz a):=⟨⟨lq.nil c,Tr.nil⟩,d.tz,by have:=gY a;have:=nP a a.length;omega,aU _,Zm.aq _ fun t=>by rw[kL];simp[ev]⟩
def AJ(p:Nat)(a b A:Int→Int):Prop:=∃α β,Po α∧Po β∧Zm p (fun t=>α t*a t+β t*b t-A t)
def AJ.left{p:Nat}(a b:Int→Int):AJ p a b a:=⟨fun _=>1,fun _=>0,Po.const 1,Po.zero,Zm.aq _ fun t=>Y⟩
def AJ.right{p:Nat}(a b:Int→Int):AJ p a b b:=⟨fun _=>0,fun _=>1,Po.zero,Po.const 1,Zm.aq _ fun t=>Y⟩
def AJ.trans{p:Nat}{a b A B C:Int→Int}(i:AJ p a b A)(j:AJ p a b B)(h:AJ p A B C):AJ p a b C:=by obtain⟨α,β,g1,g2,g3⟩:=h;obtain⟨u,v,k,l,m⟩:=i;obtain⟨c,d,e,f,g⟩:=j;refine⟨fun t=>α t*u t+β t*c t,fun t=>α t*v t+β t*d t,(g1.mul k).add (g2.mul e),(g1.mul l).add (g2.mul f),((g3.add (m.mul g1)).add (g.mul g2)).congr fun t=>?_⟩;show(α t*u t+β t*c t)*a t+(α t*v t+β t*d t)*b t-C t=α t*A t+β t*B t-C t+α t*(u t*a t+v t*b t-A t)+β t*(c t*a t+d t*b t-B t);simp only[rZ];omega
def AJ.di{p:Nat}{a b A d:Int→Int}(h:AJ p a b A)(c:Di p d a)(e:Di p d b):Di p d A:=by obtain⟨α,β,g1,g2,g3⟩:=h;exact((c.mul g1).add (e.mul g2)).alike (g3.neg.congr fun t=>o)
structure UU(p:Nat)(a b A B:ae):Prop where
 nA:gi p A
 nB:gi p B
 ne:A≠ []∨B≠ []
 f1:AJ p (fun t=>ev t a) (fun t=>ev t b) (fun t=>ev t A)
 f2:AJ p (fun t=>ev t a) (fun t=>ev t b) (fun t=>ev t B)
 g1:AJ p (fun t=>ev t A) (fun t=>ev t B) (fun t=>ev t a)
 g2:AJ p (fun t=>ev t A) (fun t=>ev t B) (fun t=>ev t b)
def UU.start{p:Nat}{a b:ae}(c:gi p a)(d:gi p b)(h:a≠ []∨b≠ []):UU p a b a b:=⟨c,d,h,AJ.left _ _,AJ.right _ _,AJ.left _ _,AJ.right _ _⟩
def DM.cmb{p:Nat}{A B q r:ae}(h:DM p A B q r):AJ p (fun t=>ev t A) (fun t=>ev t B) (fun t=>ev t r):=⟨fun _=>1,fun t=>-ev t q,Po.const 1,(Po.ev q).neg,h.eq.congr fun t=>by dsimp only;rw[jk];omega⟩
def DM.alb{p:Nat}{A B q r:ae}(h:DM p A B q r):AJ p (fun t=>ev t B) (fun t=>ev t r) (fun t=>ev t A):=⟨fun t=>ev t q,fun _=>1,Po.ev q,Po.const 1,h.eq.neg.congr fun t=>LB⟩
def UU.next{p:Nat}{a b A B q r:ae}(h:UU p a b A B)(d:B≠ [])(c:DM p A B q r):UU p a b B r:=⟨h.nB,c.nr,.inl d,h.f2,h.f1.trans h.f2 c.cmb,c.alb.trans (AJ.left _ _) h.g1,c.alb.trans (AJ.left _ _) h.g2⟩
structure GM(p:Nat)(a b g:ae):Prop where
 ng:gi p g
 ne:g≠ []
 l1:lead g=1
 d1:Di p (fun t=>ev t g) (fun t=>ev t a)
 d2:Di p (fun t=>ev t g) (fun t=>ev t b)
 cmb:AJ p (fun t=>ev t a) (fun t=>ev t b) (fun t=>ev t g)
structure A8(p:Nat)(A g:ae):Prop where
 ng:gi p g
 len:g.length=A.length
 l1:lead g=1
 eq:∃k:Int,¬(p:Int)∣k∧Zm p (fun t=>ev t g-k*ev t A)∧∃k',Zm p (fun t=>ev t A-k'*ev t g)
def A8.of{p:Nat}(j:cq (p:Int)){A g:ae}{k:Int}(n:gi p A)(f:A≠ [])(d:gi p g)(i:(p:Int)∣lead A*k-1)(v:Zm p (fun t=>ev t g-ev t A*ev t [k])):A8 p A g:=by
 obtain⟨C,D,E,F⟩:=n.ld f;have q:¬(p:Int)∣k:=fun h=>j.2 (by have:=oZ (gH h (oL (lead A) k)) i;rwa[show lead A*k-(lead A*k-1)=1 by omega]at this);have a:Zm p (fun t=>ev t g-k*ev t A):=v.congr fun t=>by simp[ev];rw[bm]
 have r:Dm p (A.length-1) (fun t=>ev t g):=((n.dm f).aO j q).alike a;have b:g≠ []:=fun e=>r.not (d.zm.2 e);have G:=(d.dm b).uniq r;have g0:=bR.2 b;have a0:=bR.2 f;have hlen:g.length=A.length:=o;have w:lead g=1:=by have s:=oo (l:=g) (m:=A.map fun x=>k*x) (a.congr fun t=>by rw[bs]) (A.length-1);rw[aS]at s;(have y:(p:Int)∣lead g-1:=by have u:=js s i;(have z:g.getD (A.length-1) 0=lead g:=by unfold lead;rw[hlen]);have B:A.getD (A.length-1) 0=lead A:=rfl;rw[z,B]at u;rwa[show lead g-k*lead A+(lead A*k-1)=lead g-1 by rw[bm k];omega]at u);obtain⟨_,H,q2,_⟩:=d.ld b;have:=Cs y OM;omega
 refine⟨d,hlen,w,k,q,a,lead A,?_⟩;obtain⟨e,he⟩:=i;refine((a.aO (lead A)).neg.sub (Zm.of_dvd (Po.ev A) (c:=lead A*k-1) ⟨e,he⟩)).congr fun t=>?_;rw[ek,im,bB];omega
def A8.ne{p:Nat}{A g:ae}(h:A8 p A g)(a:A≠ []):g≠ []:=by intro e;have:=h.len;subst e;exact a (ij.1 (by simpa using this.symm))
def UU.ends{p:Nat}{a b A g:ae}(h:UU p a b A [])(hm:A8 p A g):GM p a b g:=by have e:A≠ []:=h.ne.elim id fun h=>absurd rfl h;obtain⟨k,l,f,i,j⟩:=hm.eq;have c:Di p (fun t=>ev t g) (fun t=>ev t A):=⟨fun _=>i,Po.const _,j.congr fun t=>by rw[bm]⟩;have d:Di p (fun t=>ev t g) (fun t=>ev t ([]:ae)):=Di.mR (Zm.aq _ fun _=>rfl);refine⟨hm.ng,hm.ne e,hm.l1,h.g1.di c d,h.g2.di c d,h.f1.trans h.f1 ⟨fun _=>k,fun _=>0,Po.const k,Po.zero,f.neg.congr fun t=>LB⟩⟩
def GM.ld{p:Nat}{a b g:ae}(h:GM p a b g):Ld (g.length-1) 1 (fun t=>ev t g):=by have:=(h.ng.ld h.ne).1;rwa[h.l1]at this
def GM.PG{p:Nat}(i:cq (p:Int)){a b g:ae}(h:GM p a b g):g.length=1↔ku p (fun t=>ev t a) (fun t=>ev t b):=by
 have g0:=bR.2 h.ne;constructor;intro j;obtain⟨α,β,d,e,f⟩:=h.cmb;refine⟨α,β,1,d,e,i.2,f.congr fun t=>?_⟩;have:g=[1]:=by
  match g,j,h.l1 with
  | [x],_,d=>have:x=1:=d;rw[this]
 subst this;simp[ev];intro⟨u,v,c,d,e,f,k⟩;refine kQ fun j=>?_;have l:Di p (fun t=>ev t g) (fun _=>c):=((h.d1.mul d).add (h.d2.mul e)).alike (k.neg.congr fun t=>LB);refine f (kP i (Po.ev g) (fun m=>?_) l);have:=(h.ng.dm h.ne).uniq m;omega
def fs(L:List (ae)):List (Int→Int):=L.map fun l t=>ev t l
def rK(L:List (ae)):(fs L).length=L.length:=by simp[fs]
def pj(L M:List (ae)):fs (L++M)=fs L++fs M:=by simp[fs]
def BE{L:List (ae)}{g:Int→Int}(h:g∈fs L):∃l,l∈L∧g=fun t=>ev t l:=by obtain⟨l,a,b⟩:=ko.1 h;exact⟨l,a,b.symm⟩
def nI(L:List (ae)):∀g,g∈fs L→Po g:=fun g h=>by obtain⟨l,_,rfl⟩:=BE h;exact Po.ev l
def acz(t:Int):∀(cs:ae) (K:List (ae)),ev t (tl cs K)=kW cs (fs K) t
| [],K=>by simp[tl,kW,ev]
|c::cs,[]=>by simp[tl,kW,ev,fs]
|c::cs,r::K=>by simp only[tl,dM,bs,acz t cs K];rfl
def o_:∀(l m:ae)(n:Nat),l.length≤n→dot l m=sm (fun i=>l.getD i 0*m.getD i 0) n
| [],m,n,_=>by rw[cP n (G:=fun _=>0) fun k _=>Y,mU];simp[dot]
|a::l,m,0,h=>cT
|a::l,[],n+1,_=>by rw[cP (n+1) (G:=fun _=>0) fun k _=>Y,mU];simp[dot]
|a::l,b::m,n+1,h=>by rw[iH];simp only[dot,UL,sW];rw[o_ l m n dN]
def Dc(l a m:ae):dot (fk l a) m=dot l m+dot a m:=by have h:=nM l a (l.length+a.length) o o;rw[o_ _ m (l.length+a.length) h,o_ l m (l.length+a.length) o,o_ a m (l.length+a.length) o,←vY];exact cP _ fun k _=>by rw[cG,c_]
def CD(c:Int)(l m:ae):dot (l.map fun x=>c*x) m=c*dot l m:=by rw[o_ _ m l.length Y,o_ l m l.length (Z _),←oV];exact cP _ fun k _=>by rw[aS,bB]
def Ot(p:Nat)(a b:ae)(c:Int)(m:ae):(p:Int)∣dot (wu p a b c) m-(dot a m-c*dot b m):=by have h:=uA (p:=p) (wu p a b c) (fk a (b.map fun x=>-c*x)) m (oo ((FH a b c).congr fun t=>by rw[dM,bs,jk];omega));rwa[Dc,CD,jk,show dot a m+-(c*dot b m)=dot a m-c*dot b m by omega]at h
def Om:∀(cs:ae) (K:List (ae)) (m:ae),dot (tl cs K) m=dot cs (K.map fun b=>dot b m)
| [],K,m=>Uv
|c::cs,[],m=>Uv
|c::cs,r::K,m=>by simp only[tl,Dc,CD,pK];rw[Om cs K m];rfl
def OB{p:Nat}:∀(cs ds:ae),(∀d,d∈ds→(p:Int)∣d)→(p:Int)∣dot cs ds
| [],ds,_=>by simp[dot]
|c::cs,[],_=>by simp[dot]
|c::cs,d::ds,h=>js (gH (h d (dh ..)) (oL ..)) (OB cs ds fun x a=>h x (eh _ a))
def TE(l m:ae)(k:Nat):dot (l.take (k+1)) m=dot (l.take k) m+l.getD k 0*m.getD k 0:=by rw[o_ (l.take (k+1)) m (k+1) mI,o_ (l.take k) m (k+1) mI];simp only[sm];(have a:(l.take (k+1)).getD k 0=l.getD k 0:=by simp[List.getD,mP (show k<k+1 by omega)]);have b:(l.take k).getD k 0=0:=au mI;rw[a,b,lr,nY];congr 1;refine cP k fun i hi=>?_;simp[List.getD,mP (show i<k+1 by omega),mP hi]
def Vz(p:Nat)(l m:ae)(k:Nat):(dot (l.take k) m%p+l.getD k 0*m.getD k 0)%p=dot (l.take (k+1)) m%p:=by rw[TE];exact Int.emod_add_emod ..
def Ck(p:Nat)(E:Nat→ae)(k:Nat)(l:ae):Prop:=∀j,j<k→(p:Int)∣dot l (E j)
def Ck.wu{p:Nat}{E:Nat→ae}{k:Nat}{a b:ae}(e:Ck p E k a)(f:Ck p E k b)(c:Int):Ck p E k (wu p a b c):=by intro j d;have g:=Ot p a b c (E j);have h:=oZ (e j d) (gH (f j d) (oL c _));have:=js g h;rwa[show dot (Go.Proofs.YtldcjkhbiffdoaaGreatDoor.wu p a b c) (E j)-(dot a (E j)-c*dot b (E j))+(dot a (E j)-c*dot b (E j))=dot (Go.Proofs.YtldcjkhbiffdoaaGreatDoor.wu p a b c) (E j) by omega]at this
structure RC(p n:Nat)(E:Nat→ae)(k:Nat)(B:List (ae)):Prop where
 mem:∀b,b∈B→gi p b∧b.length≤n∧Ck p E k b
 span:∀l:ae,l.length≤n→lq p l→Ck p E k l→dO p (fs B) (fun t=>ev t l)
 len:B.length≤n
structure Fc(p n:Nat)(E:Nat→ae)(k:Nat)(B:List (ae))(i:Nat)(K:List (ae))(sp:ae)(sc:Int):Prop where
 span:∀v,dO p (fs (B.take i)) v→∃c:Int,dO p (fs K) (fun t=>v t-c*ev t sp)
 kn:∀b,b∈K→gi p b∧b.length≤n∧Ck p E (k+1) b
 sp:(sp=[]∧sc=0)∨(gi p sp∧sp.length≤n∧Ck p E k sp∧(p:Int)∣dot sp (E k)*sc-1)
 kl:K.length≤i
def Fc.start(p n:Nat)(E:Nat→ae)(k:Nat)(B:List (ae)):Fc p n E k B 0 [] [] 0 where
 span:=fun v a=>⟨0,a.alike (Zm.aq _ fun t=>Y)⟩
 kn:=fun b h=>ji
 sp:=.inl ⟨rfl,rfl⟩
 kl:=Z _
def AQ{B:List (ae)}{i:Nat}{b:ae}(a:B[i]?=some b):fs (B.take (i+1))=fs (B.take i)++[fun t=>ev t b]:=by rw[nL,a];simp[fs]
def Fc.spr{p n:Nat}(a:0<p){E:Nat→ae}{k:Nat}{B K:List (ae)}{i:Nat}{sp:ae}{sc:Int}(h:Fc p n E k B i K sp sc):gi p sp∧sp.length≤n∧Ck p E k sp:=by rcases h.sp with⟨rfl,_⟩|h;exact⟨⟨lq.nil a,Tr.nil⟩,aU _,fun j _=>by simp[dot]⟩;exact⟨h.1,h.2.1,h.2.2.1⟩
def Fc.ak3{p n:Nat}(e:cq (p:Int)){E:Nat→ae}{k:Nat}{B K:List (ae)}{i:Nat}{sp b:ae}{s:Int}(h:Fc p n E k B i K sp 0)(f:B[i]?=some b)(a:gi p b∧b.length≤n∧Ck p E k b)(g:(p:Int)∣dot b (E k)*s-1):Fc p n E k B (i+1) K b s:=by(have j:sp=[]:=by rcases h.sp with⟨rfl,_⟩|h;rfl;exfalso;apply e.2;have:=h.2.2.2;rw[jw]at this;exact CN.1 (by simpa using this));subst j;refine⟨fun v d=>?_,h.kn,.inr ⟨a.1,a.2.1,a.2.2,g⟩,by have:=h.kl;omega⟩;rw[AQ f]at d;obtain⟨c,l⟩:=d.GI;obtain⟨c',m⟩:=h.span _ l;exact⟨c,m.alike (Zm.aq _ fun t=>gQ)⟩
def Fc.kE{p n:Nat}(m:0<p){E:Nat→ae}{k:Nat}{B K:List (ae)}{i:Nat}{sp b:ae}{s:Int}(h:Fc p n E k B i K sp s)(u:B[i]?=some b)(w:gi p b∧b.length≤n∧Ck p E k b)(e:dot b (E k)%p=0∨s≠0):Fc p n E k B (i+1) (K++[wu p b sp (dot b (E k)%p*s%p)]) sp s:=by
 generalize hc:dot b (E k)%p*s%p=c;have y:=h.spr m;refine⟨fun v e=>?_,fun x z=>?_,h.sp,by have:=h.kl;simp;omega⟩;rw[AQ u]at e;obtain⟨d,a⟩:=e.GI;obtain⟨d',f⟩:=h.span _ a;refine⟨d'+d*c,?_⟩;rw[pj];refine dO.snoc (c:=d) (f.alike (((FH b sp c).aO d).neg.congr fun t=>?_));dsimp only;generalize ev t (wu p b sp c)=x;simp only[rZ];omega;rcases fo.1 z with a|a;exact h.kn x a;obtain rfl:x=wu p b sp c:=by simpa using a
 refine⟨GK m _ _ _,aW (Ap ..) o,fun j q=>?_⟩;rcases(show j<k∨j=k by omega)with q|rfl;exact w.2.2.wu y.2.2 c j q;have f:=Ot p b sp c (E j);have A:(p:Int)∣dot b (E j)-c*dot sp (E j):=by have g:=ew (dot b (E j)) p;rcases h.sp with⟨rfl,rfl⟩|⟨_,_,_,C⟩;have l:dot b (E j)%p=0:=e.resolve_right fun h=>h rfl;rw[l]at g;simp only[dot,jw,pq];exact CN.1 (by simpa using g);(have l:(p:Int)∣c-dot b (E j)%p*s:=by rw[←hc];exact ew _ p);have r:=js (js (gH l (pO _ (dot sp (E j)))) (gH C (oL (dot b (E j)%p) _))) g;(have D:(c-dot b (E j)%p*s)*dot sp (E j)+dot b (E j)%p*(dot sp (E j)*s-1)+(dot b (E j)%p-dot b (E j))=-(dot b (E j)-c*dot sp (E j)):=by generalize dot b (E j)%(p:Int)=x;simp only[rZ];omega);rw[D]at r;exact CN.1 r
 have:=js f A;rwa[show dot (wu p b sp c) (E j)-(dot b (E j)-c*dot sp (E j))+(dot b (E j)-c*dot sp (E j))=dot (wu p b sp c) (E j) by omega]at this
def Fc.ends{p n:Nat}(e:cq (p:Int)){E:Nat→ae}{k:Nat}{B K:List (ae)}{sp:ae}{s:Int}(f:RC p n E k B)(h:Fc p n E k B B.length K sp s):RC p n E (k+1) K:=by
 refine⟨h.kn,fun l m r g=>?_,aW h.kl f.len⟩;have u:=f.span l m r fun j F=>g j o;obtain⟨c,a⟩:=h.span _ (by rw[cY];exact u);rcases h.sp with⟨rfl,_⟩|⟨g1,g2,g3,g4⟩;exact a.alike (Zm.aq _ fun t=>gQ);have v:=a;obtain⟨cs,G,q2⟩:=v;have w:Zm p (fun t=>ev t l-ev t (fk (sp.map fun x=>c*x) (tl cs K))):=q2.congr fun t=>by rw[dM,bs,acz];dsimp only;omega
 have i:=uA l _ (E k) (oo w);rw[Dc,CD,Om]at i;have y:(p:Int)∣dot cs (K.map fun b=>dot b (E k)):=OB _ _ fun d z=>by obtain⟨b,A,rfl⟩:=ko.1 z;exact(h.kn b A).2.2 k o
 have C:(p:Int)∣c*dot sp (E k):=by have:=oZ (oZ (g k o) i) y;rwa[show dot l (E k)-(dot l (E k)-(c*dot sp (E k)+dot cs (K.map fun b=>dot b (E k))))-dot cs (K.map fun b=>dot b (E k))=c*dot sp (E k) by omega]at this
 have D:(p:Int)∣c:=by rcases e.1 _ _ C with q|q;exact q;exfalso;apply e.2;have:=oZ (gH q (pO _ s)) g4;rwa[show dot sp (E k)*s-(dot sp (E k)*s-1)=1 by omega]at this
 exact a.alike ((Zm.of_dvd (Po.ev sp) D).congr fun t=>o)
def vu(k:Nat):ae:=(List.replicate (k+1) 0).set k 1
def TZ(k:Nat)(t:Int):ev t (vu k)=t^k:=by unfold vu;rw[yP _ _ _ _ Y,nX];have:(List.replicate (k+1) (0:Int)).getD k 0=0:=aly;rw[this];simp
def yj(k:Nat):(vu k).length=k+1:=by simp[vu]
def Ri{p:Nat}(a:2≤p)(k:Nat):gi p (vu k):=by refine⟨(lq.tI o _).set k o o,fun _=>?_⟩;rw[yj,lu];unfold vu;rw[CY,V ⟨rfl,Y⟩];decide
def qg(n:Nat):List (ae):=(List.range n).map vu
def CE(n:Nat):qg (n+1)=qg n++[vu n]:=by simp[qg,MO]
def Fe(n:Nat):(qg n).length=n:=by simp[qg]
def CS{p:Nat}:∀(n:Nat)(l:ae),l.length≤n→dO p (fs (qg n)) (fun t=>ev t l)
|0,l,h=>by obtain rfl:l=[]:=ij.1 o;exact⟨[],rfl,Zm.aq _ fun t=>by simp[ev,qg,fs,kW]⟩
|n+1,l,h=>by have a:=CS (p:=p) n (l.take n) mI;rw[CE,pj];refine dO.snoc (c:=l.getD n 0) (a.alike (Zm.aq _ fun t=>?_));dsimp only;rw[TZ];have b:=dC t l n;rw[gT h]at b;omega
def RC.start{p:Nat}(a:2≤p)(n:Nat)(E:Nat→ae):RC p n E 0 (qg n) where
 mem:=fun b c=>by
  obtain⟨k,d,rfl⟩:=ko.1 c
  have:=Ca.1 d
  exact⟨Ri a k,by rw[yj];omega,fun j e=>o⟩
 span:=fun l h _ _=>CS n l h
 len:=by rw[Fe];exact Z _
def Fb(p:Nat)(R:List (ae))(k:Nat):ae:=eg R.length fun i=>((R.getD i []).getD k 0+if i=k then(p:Int)-1 else 0)%p
def PH(v:ae)(k:Nat)(c:Int):∀n,sm (fun i=>v.getD i 0*if i=k then c else 0) n=if k<n then c*v.getD k 0 else 0
|0=>Cu
|n+1=>by simp only[sm,PH v k c n];by_cases h:n=k;subst h;simp[bm];rw[U h,jw,nY];by_cases a:k<n;rw[V a,V o];rw[U a,U o]
def YI{p:Nat}{F G:Nat→Int}:∀n,(∀i,i<n→(p:Int)∣F i-G i)→(p:Int)∣sm F n-sm G n
|0,_=>Cu
|n+1,h=>by have a:=YI n fun i hi=>h i o;have b:=js a (h n o);simp only[sm];rwa[show sm F n+F n-(sm G n+G n)=sm F n-sm G n+(F n-G n) by omega]
def Wo(R:List (ae))(k i:Nat):(R.map fun r=>r.getD k 0).getD i 0=(R.getD i []).getD k 0:=by rcases aX i R.length with h|h;simp[List.getD,cj h];rw[au dN];have:R.getD i []=[]:=ahP;rw[this];rfl
def OE{p:Nat}(R:List (ae))(k:Nat){v:ae}(a:v.length≤R.length):(p:Int)∣dot v (Fb p R k)-((tl v R).getD k 0-v.getD k 0):=by
 rw[Vd v R k a,o_ v _ R.length a,o_ v _ R.length a];have c:v.getD k 0=sm (fun i=>v.getD i 0*if i=k then 1 else 0) R.length:=by rw[PH];split;omega;rw[au o]
 have d:sm (fun i=>v.getD i 0*(R.map fun r=>r.getD k 0).getD i 0) R.length-v.getD k 0=sm (fun i=>v.getD i 0*(R.map fun r=>r.getD k 0).getD i 0+-1*(v.getD i 0*if i=k then 1 else 0)) R.length:=by rw[vY,oV,←c];omega
 rw[d];refine YI _ fun i hi=>?_;have e:(Fb p R k).getD i 0=((R.getD i []).getD k 0+if i=k then(p:Int)-1 else 0)%p:=by unfold Fb;rw[cB,if_pos hi]
 rw[e,Wo];have f:=ew ((R.getD i []).getD k 0+if i=k then(p:Int)-1 else 0) p;generalize((R.getD i []).getD k 0+if i=k then(p:Int)-1 else 0)%(p:Int)=x at*;obtain⟨q,b⟩:=f;by_cases h:i=k;rw[V h]at b ⊢;refine⟨v.getD i 0*(q+1),?_⟩;rw[show x=(R.getD i []).getD k 0+((p:Int)-1)+p*q by omega];simp only[rZ];omega;rw[U h]at b ⊢;refine⟨v.getD i 0*q,?_⟩;rw[show x=(R.getD i []).getD k 0+p*q by omega];simp only[rZ];omega
structure BQ(p n:Nat)(f:Int→Int)(R:List (ae)):Prop where
 len:R.length=n
 mem:∀r,r∈R→gi p r∧r.length≤n
 row:∀i r,R[i]?=some r→Di p f (fun t=>t^(p*i)-ev t r)
def Uk{p n:Nat}(e:cq (p:Int)){f:Int→Int}(g:Dm p n f){R:List (ae)}(a:BQ p n f R){v:ae}(i:v.length≤n):Ck p (Fb p R) n v↔Fix p f v:=by rw[aaE e g a.len (fun r c=>(a.mem r c).2) a.row i];have hlen:=a.len;constructor;intro h k;rcases aX k n with d|d;have b:=oZ (h k d) (OE (p:=p) R k (v:=v) o);rwa[show dot v (Fb p R k)-(dot v (Fb p R k)-((tl v R).getD k 0-v.getD k 0))=(tl v R).getD k 0-v.getD k 0 by omega]at b;have b:=Mw v R n fun r c=>(a.mem r c).2;rw[au o,au o];simp;intro h j l;have b:=js (OE (p:=p) R j (v:=v) o) (h j);rwa[show dot v (Fb p R j)-((tl v R).getD j 0-v.getD j 0)+((tl v R).getD j 0-v.getD j 0)=dot v (Fb p R j) by omega]at b
structure Jr(p n:Nat)(f:Int→Int)(B:List (ae)):Prop where
 mem:∀b,b∈B→gi p b∧b.length≤n∧Fix p f b
 span:Jm p n f (fs B)
 len:B.length≤n
def RC.fix{p n:Nat}(i:0<p)(c:cq (p:Int)){f:Int→Int}(d:Dm p n f){R B:List (ae)}(e:BQ p n f R)(h:RC p n (Fb p R) n B):Jr p n f B where
 mem:=fun b a=>⟨(h.mem b a).1,(h.mem b a).2.1,(Uk c d e (h.mem b a).2.1).1 (h.mem b a).2.2⟩
 span:=fun l g j k=>h.span l g (lq.zi i j) ((Uk c d e g).2 k)
 len:=h.len
def Di.rest{p:Nat}{a b q r:ae}(h:DM p a b q r):Di p (fun t=>ev t b) (fun t=>ev t a-ev t r):=⟨fun t=>ev t q,Po.ev q,h.eq.congr fun t=>by dsimp only;rw[bm (ev t b)];omega⟩
def Yi{p k:Nat}{f s m q r:ae}(h:Di p (fun t=>ev t f) (fun t=>t^k-ev t s))(hm:Zm p (fun t=>ev t m-ev t s*ev t [0,1]))(a:DM p m f q r):Di p (fun t=>ev t f) (fun t=>t^(k+1)-ev t r):=by refine((h.mul (Po.mW 1)).add (Di.rest a)).alike (hm.neg.congr fun t=>?_);rw[bW,lG,show ev t [0,1]=t by simp[ev],ek,bm (t^k),bm t (ev t s)];omega
def aaj{p i:Nat}{f s u m q r:ae}(h:Di p (fun t=>ev t f) (fun t=>t^(p*i)-ev t u))(a:Di p (fun t=>ev t f) (fun t=>t^p-ev t s))(hm:Zm p (fun t=>ev t m-ev t u*ev t s))(b:DM p m f q r):Di p (fun t=>ev t f) (fun t=>t^(p*(i+1))-ev t r):=by refine(((h.mul (Po.mW p)).add (a.mul (Po.ev u))).add (Di.rest b)).alike (hm.neg.congr fun t=>?_);rw[yQ,Fp,iF,ek,ek,bm (t^p) (t^(p*i)),bm (t^p) (ev t u)];omega
def Ey{d d':Nat→Int→Int}{t:Int}:∀n,(∀k,k<n→d k t=d' k t)→z_ d n t=z_ d' n t
|0,_=>rfl
|n+1,h=>by show z_ d n t*d n t=z_ d' n t*d' n t;rw[Ey n fun k a=>h k o,h n o]
structure Ql(p:Nat)(u:ae):Prop where
 eT:gi p u
 l1:lead u=1
 len:1<u.length
def Ql.ne{p:Nat}{u:ae}(h:Ql p u):u≠ []:=by intro e;have:=h.len;subst e;simp at this
def Ql.ld{p:Nat}{u:ae}(h:Ql p u):Ld (u.length-1) 1 (fun t=>ev t u):=by have:=(h.eT.ld h.ne).1;rwa[h.l1]at this
def Ql.not{p:Nat}{u:ae}(h:Ql p u):¬Dm p 0 (fun t=>ev t u):=fun a=>by have:=(h.eT.dm h.ne).uniq a;have:=h.len;omega
structure Lt(p:Nat)(u b:ae)(F:List (ae))(n:Nat):Prop where
 ex:∃d:Nat→Int→Int,(∀k,k<n→Po (d k)∧Di p (d k) (fun t=>ev t u)∧Di p (d k) (fun t=>ev t b-k)∧∃α β,Po α∧Po β∧Zm p (fun t=>α t*ev t u+β t*(ev t b-k)-d k t))∧Zm p (fun t=>z_ d n t-pA (fs F) t)∧∃e,Ld e 1 (z_ d n)
 mem:∀x,x∈F→Ql p x∧Di p (fun t=>ev t x) (fun t=>ev t u)∧∃k:Int,Di p (fun t=>ev t x) (fun t=>ev t b-k)
 len:F.length≤n
def Lt.start(p:Nat)(u b:ae):Lt p u b [] 0 where
 ex:=⟨fun _ _=>1,fun k c=>o,Zm.aq _ fun t=>by simp[z_,pA,fs],0,Ld.const 1⟩
 mem:=fun x a=>by cases a
 len:=Z _
def Lt.step{p:Nat}{u b m g:ae}{F:List (ae)}{n:Nat}(h:Lt p u b F n)(hm:Zm p (fun t=>ev t m-(ev t b-n*ev t [1])))(a:GM p u m g):Lt p u b (if 1<g.length then F++[g]else F) (n+1):=by
 have i:Zm p (fun t=>ev t m-(ev t b-n)):=hm.congr fun t=>gQ;have q:Di p (fun t=>ev t g) (fun t=>ev t b-n):=a.d2.alike (i.neg.congr fun t=>o);obtain⟨d,l,v,e,w⟩:=h.ex;have g0:=bR.2 a.ne;refine⟨⟨fun k t=>if k=n then ev t g else d k t,fun k hk=>?_,?_,?_⟩,fun x c=>?_,?_⟩;by_cases j:k=n;subst j;obtain⟨α,β,y,q2,z⟩:=a.cmb;simp only[if_true];refine⟨Po.ev g,a.d1,q,α,β,y,q2,(z.sub (i.mul q2)).congr fun t=>?_⟩;dsimp only;simp only[rZ];omega;simp only[U j];exact l k o;have r:∀t,z_ (fun k t=>if k=n then ev t g else d k t) (n+1) t=z_ d n t*ev t g:=fun t=>auu;have s:Zm p (fun t=>z_ d n t*ev t g-pA (fs F) t*ev t g):=(v.mul (Po.ev g)).congr fun t=>by rw[ek,bm (z_ d n t),bm (pA (fs F) t)]
 by_cases f:1<g.length;rw[V f];refine s.congr fun t=>?_;rw[r,pj];have:fs [g]=[fun t=>ev t g]:=rfl;rw[this,oI];rw[U f];have:g=[1]:=by
  match g,show g.length=1 by omega,a.l1 with
  | [x],_,l=>have:x=1:=l;rw[this]
 refine s.congr fun t=>?_;rw[r,this];simp[ev];have:=w.mul a.ld;rw[lC]at this;refine⟨_,this.congr fun t=>?_⟩;exact auu;by_cases f:1<g.length;rw[V f]at c;rcases fo.1 c with c|c;exact h.mem x c;obtain rfl:x=g:=by simpa using c
 exact⟨⟨a.ng,a.l1,f⟩,a.d1,n,q⟩;rw[U f]at c;exact h.mem x c;have:=h.len;split<;>simp<;>omega
def Lt.ends{p:Nat}(f:2≤p)(c:cq (p:Int)){u b:ae}{F:List (ae)}(h:Lt p u b F p)(hu:Ql p u)(g:gi p b)(i:Di p (fun t=>ev t u) (fun t=>ev (t^p) b-ev t b)):Zm p (fun t=>ev t u-pA (fs F) t):=by obtain⟨d,j,k,e,l⟩:=h.ex;obtain⟨m,n⟩:=L7 f c (Po.ev u) (fun a q=>(g.1.mem a q).1) i j;have r:=TK c l hu.ld m n;exact(k.sub r).congr fun t=>o
structure SE(p:Nat)(U:List (ae))(b:ae)(i:Nat)(V:List (ae)):Prop where
 mem:∀x,x∈V→Ql p x∧(∃u,u∈U∧Di p (fun t=>ev t x) (fun t=>ev t u))∧∃k:Int,Di p (fun t=>ev t x) (fun t=>ev t b-k)
 eq:Zm p (fun t=>pA (fs (U.take i)) t-pA (fs V) t)
 len:V.length≤p*i
def SE.start(p:Nat)(U:List (ae))(b:ae):SE p U b 0 [] where
 mem:=fun x a=>by cases a
 eq:=Zm.aq _ fun t=>by simp[fs,pA]
 len:=aU _
def SE.step{p:Nat}{U V F:List (ae)}{b u:ae}{i:Nat}(h:SE p U b i V)(hu:U[i]?=some u)(e:Lt p u b F p)(he:Zm p (fun t=>ev t u-pA (fs F) t)):SE p U b (i+1) (V++F) where
 mem:=fun x a=>by
  rcases fo.1 a with a|a
  ·exact h.mem x a
  ·obtain⟨c,d,f⟩:=e.mem x a
   exact⟨c,⟨u,cN hu,d⟩,f⟩
 eq:=by
  have c:Po (pA (fs V)):=ke _ (nI V)
  have d:Po (fun t=>ev t u):=Po.ev u
  refine((h.eq.mul d).add (he.mul c)).congr fun t=>?_
  rw[AQ hu,oI,pj,lQ,ek,ek,bm (ev t u),bm (ev t u)]
  omega
 len:=by
  have c:=h.len
  have d:=e.len
  rw[ri,yQ,Fp];omega
structure om(p:Nat)(f:Int→Int)(c:Int)(B:List (ae))(i:Nat)(U:List (ae)):Prop where
 mem:∀u,u∈U→Ql p u∧∀b,b∈B.take i→∃k:Int,Di p (fun t=>ev t u) (fun t=>ev t b-k)
 eq:Zm p (fun t=>f t-c*pA (fs U) t)
def om.di{p:Nat}{f:Int→Int}{c:Int}{B U:List (ae)}{i:Nat}(h:om p f c B i U){u:ae}(hu:u∈U):Di p (fun t=>ev t u) f:=T87
def om.fix{p n:Nat}{f:Int→Int}{c:Int}{B U:List (ae)}{i:Nat}(h:om p f c B i U)(a:Jr p n f B){u b:ae}(hu:u∈U)(d:b∈B):Di p (fun t=>ev t u) (fun t=>ev (t^p) b-ev t b):=(h.di hu).trans (a.mem b d).2.2
def om.start{p:Nat}{A g:ae}(B:List (ae))(n:gi p A)(d:1<A.length)(hm:A8 p A g):om p (fun t=>ev t A) (lead A) B 0 [g]:=by
 have q:A≠ []:=by intro e;subst e;simp at d
 refine⟨fun u hu=>?_,?_⟩;obtain rfl:u=g:=by simpa using hu
 exact⟨⟨hm.ng,hm.l1,by rw[hm.len];exact d⟩,fun b h=>by simp at h⟩;obtain⟨k,r,s,a,f⟩:=hm.eq;have i:(p:Int)∣lead A-a:=by have c:=oo (l:=A) (m:=g.map fun x=>a*x) (f.congr fun t=>by rw[bs]) (A.length-1);rw[aS]at c;(have j:g.getD (A.length-1) 0=1:=by rw[←hm.len];exact hm.l1);rw[j,kJ]at c;exact c
 refine(f.sub (Zm.of_dvd (Po.ev g) i)).congr fun t=>?_;show ev t A-lead A*(ev t g*1)=ev t A-a*ev t g-(lead A-a)*ev t g;rw[im,kJ];omega
def om.next{p:Nat}{f:Int→Int}{c:Int}{B U V:List (ae)}{i:Nat}{b:ae}(h:om p f c B i U)(j:B[i]?=some b)(e:SE p U b U.length V):om p f c B (i+1) V:=by refine⟨fun u hu=>?_,?_⟩;obtain⟨d,⟨l,m,n⟩,q⟩:=e.mem u hu;refine⟨d,fun g a=>?_⟩;rw[nL,j]at a;rcases fo.1 a with a|a;obtain⟨k,r⟩:=(h.mem l m).2 g a;exact⟨k,n.trans r⟩;(obtain rfl:g=b:=by simpa using a);exact q;have d:=e.eq;rw[cY]at d;exact(h.eq.add (d.aO c)).congr fun t=>SW
def om.count{p n:Nat}(a:2≤p)(b:cq (p:Int)){f:Int→Int}{c:Int}{B U:List (ae)}{i:Nat}(h:om p f c B i U)(d:Dm p n f)(e:Sq p f)(g:Jr p n f B)(hc:¬(p:Int)∣c):U.length≤B.length:=by have:=Go.Proofs.YtldcjkhbiffdoaaGreatDoor.count a b d e (nI B) g.span (U:=fs U) (c:=c) (nI U) (fun u hu=>amB) hc h.eq;rwa[rK,rK]at this
structure AN(p:Nat)(f:Int→Int)(c:Int)(n:Nat)(U:List (ae)):Prop where
 mem:∀u,u∈U→Ql p u∧qU p (fun t=>ev t u)
 eq:Zm p (fun t=>f t-c*pA (fs U) t)
 len:U.length≤n
def om.ends{p n:Nat}(g:2≤p)(j:cq (p:Int)){f:Int→Int}{c:Int}{B U:List (ae)}{i:Nat}(h:om p f c B i U)(k:Dm p n f)(m:Sq p f)(a:Jr p n f B)(hc:¬(p:Int)∣c)(he:B.length≤i∨B.length≤U.length):AN p f c n U:=by have q:∀u,u∈fs U→¬Dm p 0 u:=fun u hu=>amB;refine⟨fun u hu=>⟨(h.mem u hu).1,?_⟩,h.eq,aW (h.count g j k m a hc) a.len⟩;rcases he with he|he;have r:B.take i=B:=gT he;obtain⟨d,e,rfl⟩:=FX hu;(have s:Zm p (fun t=>f t-c*(ev t u*pA (fs (d++e)) t)):=h.eq.congr fun t=>by rw[pj,pj,lQ,lQ];show f t-c*(ev t u*(pA (fs d) t*pA (fs e) t))=f t-c*(pA (fs d) t*(ev t u*pA (fs e) t));rw[gy (ev t u)]);refine QG g j k m a.span (Po.ev u) (ke _ (nI (d++e))) hc s (h.mem u hu).1.not fun b v=>?_;obtain⟨l,h1,rfl⟩:=BE v;exact(h.mem u hu).2 l (by rw[r];exact h1);exact Nl g j k m (nI B) a.span (U:=fs U) (c:=c) (nI U) q hc h.eq (by rw[rK,rK];exact he) _ (ko.2 ⟨u,hu,rfl⟩)
structure N9(p:Nat)(a b G L gs ls:ae):Prop where
 gc:UU p b a G L
 ng:gi p gs
 nl:gi p ls
 sg:Di p (fun t=>ev t b) (fun t=>ev t G-ev t gs*ev t a)
 sl:Di p (fun t=>ev t b) (fun t=>ev t L-ev t ls*ev t a)
 gl:G.length≤20
 ll:L.length≤a.length
 lg:gs.length≤1+20*(a.length-L.length)
 l2:ls.length≤1+20*(a.length-L.length)
def N9.start{p:Nat}(g:2≤p){a b:ae}(c:gi p a)(d:gi p b)(e:b≠ [])(f:b.length≤20):N9 p a b b a [] [1] where
 gc:=UU.start d c (.inl e)
 ng:=⟨lq.nil o,Tr.nil⟩
 nl:=⟨lq.zi o (fun a c=>by simp at c;omega),fun _=>Y⟩
 sg:=Di.of_eq (s:=fun _=>1) (Po.const 1) fun t=>gQ
 sl:=Di.mR (Zm.aq _ fun t=>gQ)
 gl:=f
 ll:=Z _
 lg:=Y
 l2:=Y
def N9.next{p:Nat}{a b G L gs ls q r c sh:ae}(h:N9 p a b G L gs ls)(e:L≠ [])(m:a.length≤20)(d:DM p G L q r)(f:Zm p (fun t=>ev t c-ev t q*ev t ls))(n:c.length≤q.length+ls.length)(g:sh=wu p gs c 1)(i:0<p):N9 p a b L r ls sh:=by have j:=FH (p:=p) gs c 1;have s:=bR.2 e;have u:=d.ql;have v:=d.lt;have w:=h.gl;have y:=h.ll;have k:=h.lg;have z:=h.l2;have l:=Ap p gs c 1;subst g;refine⟨h.gc.next e d,h.nl,GK i _ _ _,h.sl,?_,o,o,o,o⟩;refine((h.sg.sub (h.sl.mul (Po.ev q)))).alike (((d.eq.neg).sub (j.mul (Po.ev a))).add (f.mul (Po.ev a))|>.congr fun t=>?_);generalize ev t (wu p gs c 1)=x;simp only[rZ];omega
def N9.ends{p:Nat}(hp:cq (p:Int)){a b G gs ls m q r:ae}{s:Int}(h:N9 p a b G [] gs ls)(hc:ku p (fun t=>ev t a) (fun t=>ev t b))(e:(p:Int)∣G.getD 0 0*s-1)(hm:Zm p (fun t=>ev t m-ev t gs*ev t [s]))(d:DM p m b q r):gi p r∧r.length<b.length∧Di p (fun t=>ev t b) (fun t=>ev t r*ev t a-1):=by
 refine⟨d.nr,d.lt,?_⟩;have f:G.length=1:=by have aF:G≠ []:=h.gc.ne.elim id fun h=>absurd rfl h;have g0:=bR.2 aF;refine kQ fun k=>?_;obtain⟨u,v,c,h1,h2,h3,h4⟩:=hc;exact T22
 obtain⟨x,rfl⟩:∃x,G=[x]:=by
  match G,f with
  | [x],_=>exact⟨x,rfl⟩
 have g:(p:Int)∣x*s-1:=by simpa using e
 have h1:=h.sg;refine((((Di.rest d).mul (Po.ev a)).add ((h1.mul (Po.const s)))).mul (Po.const (-1))).alike (((hm.mul (Po.ev a)).add ((Zm.of_dvd (Po.const 1) g))).congr fun t=>?_);have i:ev t [x]=x:=gQ;have j:ev t [s]=s:=gQ;rw[i,j];simp only[rZ];omega
def Ai(p:Nat)(f:Int→Int)(u c:ae):Prop:=gi p c∧c.length<u.length∧∃O,Po O∧Zm p (fun t=>f t-O t*ev t u)∧Di p (fun t=>ev t u) (fun t=>ev t c*O t-1)
def DM.exact{p:Nat}(d:cq (p:Int)){a b q r:ae}(h:DM p a b q r)(g:gi p b)(i:Di p (fun t=>ev t b) (fun t=>ev t a)):r=[]:=by refine kQ fun f=>?_;have k:=h.lt;(have c:b≠ []:=by intro e;subst e;simp at k);have l:Di p (fun t=>ev t b) (fun t=>ev t r):=(i.sub (Di.rest h)).alike (Zm.aq _ fun t=>o);obtain⟨_,_,j,_,_,m,_⟩:=(l.dv d).Ef d (g.dm c) (h.nr.dm f);have:=bR.2 f;omega
def AN.di{p n:Nat}{f:Int→Int}{c:Int}{U:List (ae)}(h:AN p f c n U){u:ae}(hu:u∈U):Di p (fun t=>ev t u) f:=T87
def AN.others{p n:Nat}(d:cq (p:Int)){F:ae}{c:Int}{U:List (ae)}(h:AN p (fun t=>ev t F) c n U)(e:Sq p (fun t=>ev t F)){u q r:ae}(hu:u∈U)(a:DM p F u q r):Zm p (fun t=>ev t F-ev t q*ev t u)∧ku p (fun t=>ev t q) (fun t=>ev t u):=by have f:=a.exact d (h.mem u hu).1.eT (h.di hu);(have b:Zm p (fun t=>ev t F-ev t q*ev t u):=a.eq.congr fun t=>by rw[f];simp[ev]);exact⟨b,e.PG (c:=1) (Po.ev q) (Po.ev u) (b.congr fun t=>by rw[lC])⟩
def Ai.of{p:Nat}{F u q r:ae}(b:Zm p (fun t=>ev t F-ev t q*ev t u))(a:gi p r∧r.length<u.length∧Di p (fun t=>ev t u) (fun t=>ev t r*ev t q-1)):Ai p (fun t=>ev t F) u r:=⟨a.1,a.2.1,fun t=>ev t q,Po.ev q,b,a.2.2⟩
end Go.Proofs.YtldcjkhbiffdoaaGreatDoor
