import Derived.Test.YtldcjkhbiffdoaaGreatDoorS08
set_option maxRecDepth 100000
set_option maxHeartbeats 40000000
set_option linter.unusedSimpArgs false
set_option linter.defProp false
namespace Go.Proofs.YtldcjkhbiffdoaaGreatDoor
open Go.RowKit Go.Proofs.Tryz
structure wh(p k:Nat)(L:List (Int→Int))(f:Int→Int)(c:Int)(n:Nat):Prop where
 two:2≤p
 Ip:cq (p:Int)
 one:1≤k
 Nv:∀g,g∈L→qU p g
 Sd:∀g,g∈L→∃d,Ld d 1 g
 sq:Sq p f
 hc:¬(p:Int)∣c
 ld:Ld n c f
 alike:Zm ((p:Int)^k) (fun t=>f t-c*pA L t)
def Mm{a:Nat}{g:Int→Int}(h:Dm 0 a g):∃c,c≠0∧Ld a c g:=by obtain⟨d,f0,b,e,w,_,f⟩:=h;exact⟨d,fun h=>b Tc,e.congr fun t=>by have i:g t-f0 t=0*w t:=f t;omega⟩
def tO{a:Nat}{g:Int→Int}{c:Int}(h:Ld a c g)(hc:c≠0):Dm 0 a g:=Dm.ig h fun h=>hc (vS.1 h)
def lds{n:Nat}{c:Int}{f g h:Int→Int}(p:Ld n c f)(hc:c≠0)(v:Po g)(w:Po h)(e:∀t,f t=g t*h t):∃a b d i,Ld a d g∧Ld b i h∧a+b=n∧c=d*i:=by have l:Dm 0 n (fun t=>g t*h t):=tO (p.congr fun t=>(e t).symm) hc;obtain⟨N,q⟩:=v;obtain⟨M,r⟩:=w;rcases Zm.jS (m:=0) q with j|⟨a,_,j⟩;exact absurd ((j.mul r.po).congr (g:=fun t=>g t*h t) fun t=>bm _ _) l.not;rcases Zm.jS (m:=0) r with k|⟨b,_,k⟩;exact absurd (k.mul q.po) l.not;obtain rfl:=(j.mul cq.zero k).uniq l;obtain⟨d,x,s⟩:=Mm j;obtain⟨i,y,u⟩:=Mm k;exact⟨a,b,d,i,s,u,rfl,p.uniq (s.mul u) e⟩
def zv{p:Nat}(d:cq (p:Int)):∀(L:List (Int→Int)) (s i:Nat) (r:Int→Int),(∀g,g∈L→Po g)→L[i]?=some r→s.testBit i=true→Dv p r (pS L s)
| [],s,i,r,_,h,_=>cT
|g::L,s,0,r,b,h,a=>by obtain rfl:g=r:=dN;rw[Nat.testBit_zero]at a;(have a:s%2=1:=by simpa using a);refine Dv.of_eq p d (E6 L (fun x c=>b x (eh _ c)) (s/2)) fun t=>?_;conv=>lhs;rw[show s=1+2*(s/2) by omega,sB]
|g::L,s,i+1,r,b,h,a=>by have e:=zv d L (s/2) i r (fun x c=>b x (eh _ c)) dN (by rw[←Nat.testBit_succ];exact a);rcases(show s%2=0∨s%2=1 by omega)with f|f;(·refine e.alike (Zm.aq _ fun t=>?_);(conv=>lhs;lhs;rw[show s=2*(s/2) by omega,tC]);omega);·refine(e.mul (b g (dh ..))).alike (Zm.aq _ fun t=>?_);(conv=>lhs;lhs;rw[show s=1+2*(s/2) by omega,sB]);omega
def Mk(p:Nat)(L:List (Int→Int))(g:Int→Int)(s:Nat):Prop:=s<2^L.length∧∀i r,L[i]?=some r→(s.testBit i=true↔Dv p r g)
def oX{s n i:Nat}(h:s<2^n)(hi:n≤i):s.testBit i=false:=by apply Nat.testBit_lt_two_pow;exact dy h (cI J hi)
def Mk.ext{L:List (Int→Int)}{s s':Nat}(h:s<2^L.length)(a:s'<2^L.length)(e:∀i r,L[i]?=some r→(s.testBit i=true↔s'.testBit i=true)):s=s':=by refine M1 fun i=>?_;rcases aX i L.length with hi|hi;have:=e i L[i] (cj hi);cases b:s.testBit i<;>cases c:s'.testBit i<;>simp_all;rw[oX h hi,oX a hi]
def Mk.uniq{p:Nat}{L:List (Int→Int)}{g:Int→Int}{s s':Nat}(h:Mk p L g s)(a:Mk p L g s'):s=s':=Mk.ext h.1 a.1 fun i r b=>(h.2 i r b).trans (a.2 i r b).symm
def Mk.congr{p:Nat}{L:List (Int→Int)}{g h:Int→Int}{s:Nat}(a:Mk p L g s)(e:∀t,h t=g t):Mk p L h s:=⟨a.1,fun i r b=>(a.2 i r b).trans ⟨fun h=>h.alike (Zm.aq _ fun t=>Cv),fun h=>h.alike (Zm.aq _ fun t=>Cv)⟩⟩
variable{p k n:Nat}{L:List (Int→Int)}{f:Int→Int}{c:Int}
def wh.ZI(Z:wh p k L f c n):c≠0:=fun h=>Z.hc (by rw[h];exact WD _)
def wh.po(Z:wh p k L f c n):∀g,g∈L→Po g:=fun g a=>(Z.Nv g a).1
def wh.Ts(Z:wh p k L f c n):Zm p (fun t=>f t-c*pA L t):=Z.alike.Bj Z.one
def wh.mask(Z:wh p k L f c n){g h:Int→Int}(q:Po g)(u:Po h)(e:∀t,f t=g t*h t):∃s a b j d,Mk p L g s∧Ld a j g∧Ld b d h∧a+b=n∧c=j*d∧Ld a 1 (pS L s)∧Zm ((p:Int)^k) (fun t=>d*g t-c*pS L s t):=by
 obtain⟨a,b,j,d,v,w,y,x⟩:=lds Z.ld Z.ZI q u e;obtain⟨s,g1,g2,g3,g4,g5,g6,g7⟩:=afN Z.two Z.Ip Z.one Z.Nv Z.Sd Z.sq Z.hc Z.alike v w e x;refine⟨s,a,b,j,d,⟨g1,fun i r l=>⟨fun m=>?_,fun z=>?_⟩⟩,v,w,y,x,g2,g6⟩;have:=(zv Z.Ip L s i r Z.po l m).mul (Po.const j);exact this.alike g4
 ·have hi:i<L.length:=by rcases aX i L.length with h|h;exact h;rw[dF h]at l;cases l
  cases m:s.testBit i with
  |true=>rfl
  |false=>exfalso;(have A:(2^L.length-1-s).testBit i=true:=by rw[show 2^L.length-1-s=2^L.length-(s+1) by omega,Wk g1,m];simpa using hi);have B:=((zv Z.Ip L _ i r Z.po l A).mul (Po.const d)).alike g5;have C:=Z.Nv r (cN l);exact C.Hr Z.Ip (Z.sq.PG (c:=1) q u (Zm.aq _ fun t=>Cv)) z B
def wh.CU(Z:wh p k L f c n){e:Int}(he:¬(p:Int)∣e):Mk p L (fun _=>e) 0:=⟨two_pos _,fun i r a=>⟨fun h=>(by rw[sL]at h;cases h),fun h=>absurd h ((Z.Nv r (cN a)).qS Z.Ip he)⟩⟩
def wh.Cl(Z:wh p k L f c n){g h:Int→Int}(d:Po g)(i:Po h)(e:∀t,f t=g t*h t)(hm:Mk p L g 0):Dm 0 0 g:=by obtain⟨s,a,b,w,y,j,l,z,A,q,r,B⟩:=Z.mask d i e;obtain rfl:=j.uniq hm;have u:∀(L:List (Int→Int)) t,pS L 0 t=1:=T51;have v:=(Dm.ig (m:=0) r J).uniq (Dm.ig (m:=0) ((Ld.const 1).congr (u L)) J);subst v;refine tO l fun h=>Z.ZI ?_;rw[q,h,lr]
def wh.PG(Z:wh p k L f c n){g h q:Int→Int}(b:Po g)(i:Po h)(a:Po q)(e:∀t,f t=g t*(h t*q t)):ku p g h:=by obtain⟨u,v,d,j,l,m,r⟩:=Z.sq.PG (c:=1) b (i.mul a) (Zm.aq _ fun t=>Cv);exact⟨u,fun t=>v t*q t,d,j,l.mul a,m,r.congr fun t=>by show u t*g t+v t*q t*h t-d=u t*g t+v t*(h t*q t)-d;rw[bB,bm (q t)]⟩
def wh.wV(Z:wh p k L f c n){g h q:Int→Int}(d:Po g)(j:Po h)(v:Po q)(e:∀t,f t=g t*(h t*q t)){s s':Nat}(b:Mk p L g s)(l:Mk p L h s'):Mk p L (fun t=>g t*h t) (s|||s')∧s&&&s'=0:=by have hc:=Z.PG d j v e;refine⟨⟨XV b.1 l.1,fun i r a=>?_⟩,?_⟩;rw[WJ,Bool.or_eq_true,b.2 i r a,l.2 i r a];refine⟨fun m=>m.elim (fun u=>?_) fun u=>u.mul d,fun m=>(Z.Nv r (cN a)).zG Z.Ip d j m⟩;exact(u.mul j).alike (Zm.aq _ fun t=>by rw[bm];omega);refine Mk.ext (L:=L) (fe Nat.and_le_left b.1) (two_pos _) fun i r a=>?_;rw[AZ,sL,pL,b.2 i r a,l.2 i r a];exact⟨fun h=>((Z.Nv r (cN a)).Hr Z.Ip hc h.1 h.2).elim,fun h=>ji⟩
def alP{s s':Nat}(h:s&&&s'=0)(c:s'≠0):s<s|||s':=by
 refine Nat.lt_of_le_of_ne Nat.left_le_or fun e=>c ?_;refine M1 fun i=>?_;rw[sL];have b:(s|||s').testBit i=s.testBit i:=by rw[←e]
 have a:(s&&&s').testBit i=false:=by rw[h,sL]
 rw[WJ]at b;rw[AZ]at a;cases d:s'.testBit i with
 |false=>rfl
 |true=>rw[d]at b a;simp at b a;rw[b]at a;cases a
structure CB(p:Nat)(L:List (Int→Int))(f:Int→Int)(found:List (Int→Int))(left:Int→Int)(taken choice:Nat):Prop where
 pol:Po left
 pof:∀g,g∈found→Po g
 eq:∀t,f t=pA found t*left t
 iz:∀g,g∈found→Iz g
 msk:Mk p L (pA found) taken
 top:taken<2^(L.length-1)
 no:∀g h,Po g→Po h→(∀t,left t=g t*h t)→∀s,Mk p L g s→0<s→s&&&taken=0→choice≤s
def CB.start(Z:wh p k L f c n):CB p L f [] f 0 1 where
 pol:=Z.ld.po
 pof:=fun g h=>ji
 eq:=fun t=>Fz
 iz:=fun g h=>ji
 msk:=Z.CU Z.Ip.2
 top:=two_pos _
 no:=fun g h _ _ _ s _ a _=>a
def CB.skip{found:List (Int→Int)}{left:Int→Int}{taken choice:Nat}(h:CB p L f found left taken choice)(b:choice&&&taken≠0):CB p L f found left taken (choice+1):=⟨h.pol,h.pof,h.eq,h.iz,h.msk,h.top,fun g q c d e s hm i a=>by have k:=h.no g q c d e s hm i a;rcases(show choice=s∨choice<s by omega)with rfl|j;exact absurd a b;exact j⟩
def CB.Tb{found:List (Int→Int)}{left:Int→Int}{taken choice:Nat}(h:CB p L f found left taken choice)(c:∀g q,Po g→Po q→(∀t,left t=g t*q t)→¬Mk p L g choice):CB p L f found left taken (choice+1):=⟨h.pol,h.pof,h.eq,h.iz,h.msk,h.top,fun g q a b e s hm d i=>by have k:=h.no g q a b e s hm d i;rcases(show choice=s∨choice<s by omega)with rfl|j;exact absurd hm (c g q a b e);exact j⟩
def oI:∀(l:List (Int→Int)) (g:Int→Int) (t:Int),pA (l++[g]) t=pA l t*g t
| [],g,t=>Fz
|x::l,g,t=>by show x t*pA (l++[g]) t=x t*pA l t*g t;rw[oI l g t,bB]
def CB.parts(Z:wh p k L f c n){found:List (Int→Int)}{left:Int→Int}{taken choice:Nat}(H:CB p L f found left taken choice){a b q:Int→Int}(d:Po a)(g:Po b)(i:Po q)(e:∀t,left t=a t*b t*q t):∃s1 s2,Mk p L a s1∧Mk p L b s2∧Mk p L (fun t=>a t*b t) (s1|||s2)∧s1&&&s2=0∧s1&&&taken=0∧s2&&&taken=0∧(s1=0→Dm 0 0 a)∧(s2=0→Dm 0 0 b):=by have j:Po (pA found):=ke found H.pof;have r:∀t,f t=a t*(b t*(q t*pA found t)):=fun t=>Ob;have s:∀t,f t=b t*(a t*(q t*pA found t)):=fun t=>Ob;have u:∀t,f t=a t*(pA found t*(q t*b t)):=fun t=>Ob;have v:∀t,f t=b t*(pA found t*(q t*a t)):=fun t=>Ob;obtain⟨s1,_,_,_,_,l,_⟩:=Z.mask d (g.mul (i.mul j)) r;obtain⟨s2,_,_,_,_,m,_⟩:=Z.mask g (d.mul (i.mul j)) s;obtain⟨w,x⟩:=Z.wV d g (i.mul j) r l m;obtain⟨_,y⟩:=Z.wV d j (i.mul g) u l H.msk;obtain⟨_,z⟩:=Z.wV g j (i.mul d) v m H.msk;refine⟨s1,s2,l,m,w,x,y,z,fun h=>?_,fun h=>?_⟩;subst h;exact Z.Cl d (g.mul (i.mul j)) r l;subst h;exact Z.Cl g (d.mul (i.mul j)) s m
def CB.hit(Z:wh p k L f c n){found:List (Int→Int)}{left:Int→Int}{taken choice:Nat}(H:CB p L f found left taken choice)(W:0<choice)(K:choice<2^(L.length-1)){g q:Int→Int}(u:Po g)(j:Po q)(e:∀t,left t=g t*q t)(hm:Mk p L g choice):CB p L f (found++[g]) q (taken|||choice) (choice+1):=by
 have G:Po (pA found):=ke found H.pof;have C:¬Zm 0 g:=by intro⟨w,_,hw⟩;(have:Zm 0 f:=Zm.aq _ fun t=>by rw[H.eq,e,hw];simp);exact Z.ZI (vS.1 (this.lead Z.ld))
 have D:Iz g:=by refine⟨u,C,fun M=>?_,fun a b v y l=>?_⟩;obtain⟨E,z,w,_,m⟩:=M.zero;(have d:∀t,g t=E:=fun t=>by have A:g t-E=0*w t:=m t;omega);(have A:¬(p:Int)∣E:=by intro h;apply Z.hc;(have B:Zm p f:=(Zm.of_dvd (G.mul j) h).congr fun t=>by rw[H.eq,e,d,gy]);exact B.lead Z.ld);have B:=((Z.CU A).congr d).uniq hm;omega;obtain⟨s1,s2,z,m,d,A,B,X,N,O⟩:=H.parts Z v y j (fun t=>by rw[e,l]);have h9:s1|||s2=choice:=(d.congr l).uniq hm;by_cases P:s1=0;exact Or.inl (N P);by_cases I:s2=0;exact Or.inr (O I);exfalso;have GB:=H.no a (fun t=>b t*q t) v (y.mul j) (fun t=>by rw[e,l,bB]) s1 z o B;have:=alP A I;omega
 obtain⟨z,_⟩:=Z.wV G u j (fun t=>by rw[H.eq,e]) H.msk hm;refine⟨j,fun x F=>?_,fun t=>?_,fun x F=>?_,z.congr fun t=>oI found g t,XV H.top K,fun a b v y l s Q R S=>?_⟩;rcases fo.1 F with h|h;exact H.pof x h;obtain rfl:x=g:=by simpa using h
 exact u;rw[oI,H.eq,e,bB];rcases fo.1 F with h|h;exact H.iz x h;obtain rfl:x=g:=by simpa using h
 exact D;have r:s&&&taken=0∧s&&&choice=0:=by(have:∀i,(s&&&taken).testBit i=false∧(s&&&choice).testBit i=false:=by intro i;(have m:(s&&& (taken|||choice)).testBit i=false:=by rw[S,sL]);rw[AZ,WJ]at m;rw[AZ,AZ];cases T:s.testBit i<;>cases Xa:taken.testBit i<;>cases hh3:choice.testBit i<;>simp_all);exact⟨M1 fun i=>by rw[(this i).1,sL],M1 fun i=>by rw[(this i).2,sL]⟩
 have m:=H.no a (fun t=>b t*g t) v (y.mul u) (fun t=>by rw[e,l];simp only[rZ]) s Q R r.1;rcases(show choice=s∨choice<s by omega)with rfl|d;rw[Nat.and_self]at r;omega;exact d
def CB.ends(Z:wh p k L f c n){found:List (Int→Int)}{left:Int→Int}{taken choice:Nat}(H:CB p L f found left taken choice)(M:2^(L.length-1)≤choice)(N:0<L.length):Iz left:=by
 have F:Po (pA found):=ke found H.pof;have v:¬Zm 0 left:=by intro⟨w,_,hw⟩;(have:Zm 0 f:=Zm.aq _ fun t=>by rw[H.eq,hw];simp);exact Z.ZI (vS.1 (this.lead Z.ld))
 refine⟨H.pol,v,fun K=>?_,fun a b y g z=>?_⟩;obtain⟨r,A⟩:∃r,L[L.length-1]?=some r:=⟨_,cj o⟩;have G:=Z.Nv r (cN A);have m:Dv p r (pA L):=by have:Dv p r (pS L (2^L.length-1)):=zv Z.Ip L _ _ r Z.po A (by have:=Wk (x:=0) (n:=L.length) (two_pos _) (L.length-1);rw[pH]at this;rw[this,sL];simp;omega);refine this.alike (Zm.aq _ fun t=>?_);have d:=An L (2^L.length-1) (by have:=two_pos L.length;omega) t;rw[C7]at d;have e:∀(L:List (Int→Int)) t,pS L 0 t=1:=T51;rw[e,kJ]at d;rw[d];omega
 have d:Dv p r (fun t=>pA found t*left t):=by refine(m.mul (Po.const c)).alike (Z.Ts.congr fun t=>?_);rw[H.eq]
 rcases G.zG Z.Ip F H.pol d with e|e;have j:=(H.msk.2 _ r A).2 e;rw[oX H.top (al _)]at j;cases j;obtain⟨B,j,w,_,C⟩:=K.zero;have q:∀t,left t=B:=fun t=>by have u:left t-B=0*w t:=C t;omega
 have u:¬(p:Int)∣B:=by intro h;apply Z.hc;(have D:Zm p f:=(Zm.of_dvd F h).congr fun t=>by rw[H.eq,q,bm]);exact D.lead Z.ld
 exact G.qS Z.Ip u (e.alike (Zm.aq _ fun t=>by rw[q];omega));obtain⟨s1,s2,m,d,e,j,C,q,u,D⟩:=H.parts Z y g (Po.const 1) (fun t=>by rw[z];omega);by_cases E:s1=0;exact Or.inl (u E);by_cases I:s2=0;exact Or.inr (D I);exfalso;have O:=H.no a b y g z s1 m o C;have P:=H.no b a g y (fun t=>by rw[z,bm]) s2 d o q;have l:∀s,s<2^L.length→2^(L.length-1)≤s→s.testBit (L.length-1)=true:=by
  intro s E I;cases g:s.testBit (L.length-1)with
  |true=>rfl
  |false=>exfalso;(have:s<2^(L.length-1):=Nat.lt_pow_two_of_testBit s fun i hi=>by rcases(show i=L.length-1∨L.length≤i by omega)with rfl|h;exact g;exact oX E h);omega
 have b1:=l s1 m.1 o;have b2:=l s2 d.1 o;have:(s1&&&s2).testBit (L.length-1)=true:=by rw[AZ,b1,b2];rfl
 rw[j,sL]at this;cases this
def wh.QI(Z:wh p k L f c n){g w:Int→Int}(v:Po g){κ d:Int}{s:Nat}(e:s<2^L.length)(u:¬(p:Int)∣d)(hw:∀t,w t=κ*g t)(x:Zm ((p:Int)^k) (fun t=>w t-d*pS L s t)):Mk p L g s:=by
 have j:=x.Bj Z.one;have hS:Po (pS L s):=E6 L Z.po s;have y:¬(p:Int)∣κ:=by intro h;(have l:Zm p (fun t=>d*pS L s t):=((Zm.of_dvd v h).sub j).congr fun t=>by rw[hw];omega);obtain⟨a,m⟩:=JX L Z.Sd s;have:=l.lead (m.aO d);rw[kJ]at this;exact u this
 refine⟨e,fun i r b=>⟨fun q=>?_,fun z=>?_⟩⟩;refine Dv.BB Z.Ip y (((zv Z.Ip L s i r Z.po b q).mul (Po.const d)).alike (j.congr fun t=>?_));rw[hw]
 ·have hi:i<L.length:=by rcases aX i L.length with h|h;exact h;rw[dF h]at b;cases b
  cases q:s.testBit i with
  |true=>rfl
  |false=>exfalso;(have A:(2^L.length-1-s).testBit i=true:=by rw[show 2^L.length-1-s=2^L.length-(s+1) by omega,Wk e,q];simpa using hi);have l:=zv Z.Ip L _ i r Z.po b A;have m:Dv p r (pS L s):=Dv.BB Z.Ip u ((z.mul (Po.const κ)).alike (j.neg.congr fun t=>by rw[hw];omega));refine(Z.Nv r (cN b)).Hr Z.Ip (Z.sq.PG (c:=c) hS (E6 L Z.po _) (Z.Ts.congr fun t=>?_)) m l;rw[An L s e]
def Zm.AX{p:Nat}(l:2≤p)(c:cq (p:Int)){d:Int}(e:¬(p:Int)∣d){X:Int→Int}(f:Po X):∀k,Zm ((p:Int)^k) (fun t=>d*X t)→Zm ((p:Int)^k) X
|0,_=>⟨X,f,fun t=>ax⟩
|k+1,⟨g,h,i⟩=>by have b:(p:Int)≠0:=o;have m:(p:Int)^k≠0:=TA b;obtain⟨Y,n,j⟩:=Zm.AX l c e f k ⟨_,h.aO p,fun t=>by rw[i,bW,bB]⟩;have q:Zm p (fun t=>d*Y t):=⟨g,h,fun t=>by have a:d*X t=(p:Int)^(k+1)*g t:=i t;rw[j,bW,bB,gy]at a;exact zo m a⟩;obtain⟨r,a,s⟩:=Zm.je c e n q;exact⟨r,a,fun t=>by rw[j,s,bW,bB]⟩
def CB.oy(Z:wh p k L f c n){found:List (Int→Int)}{left:Int→Int}{taken choice:Nat}(H:CB p L f found left taken choice){g h:Int→Int}(w:Po g)(x:Po h)(e:∀t,left t=g t*h t)(hm:Mk p L g choice){m:Nat}{i:Int}(y:Ld m i left)(u:i≠0):∃a b j d,Ld a j g∧Ld b d h∧j≠0∧d≠0∧a+b=m∧i=j*d∧Zm ((p:Int)^k) (fun t=>d*g t-i*pS L choice t)∧∃z A B,Ld B (d*A) z∧A≠0∧a+B=n∧∀t,f t=g t*z t:=by have C:Po (pA found):=ke found H.pof;have D:∀t,f t=g t*(h t*pA found t):=fun t=>Ob;obtain⟨s,a,b,j,d,N,E,F,O,r,T,P⟩:=Z.mask w (x.mul C) D;obtain rfl:=N.uniq hm;have l:j≠0:=fun h=>Z.ZI (by rw[r,h,lr]);have v:d≠0:=fun h=>Z.ZI (by rw[r,h,jw]);obtain⟨b1,b2,d1,d2,G,q2,W,q⟩:=lds F v x C fun _=>rfl;have I:d1≠0:=fun h=>v (by rw[q,h,lr]);have Q:d2≠0:=fun h=>v (by rw[q,h,jw]);have K:=(E.mul G).congr e;(have R:m=a+b1:=by exact(tO y u).uniq (tO K (tN l I)));subst R;have M:i=j*d1:=y.uniq K fun _=>rfl;refine⟨a,b1,j,d1,E,G,l,I,rfl,M,?_,_,d2,b,by rw[←q];exact F,Q,O,D⟩;have S:¬(p:Int)∣d2:=fun h=>Z.hc (by rw[r,q];exact gH h (gH (oL ..) (oL ..)));refine Zm.AX Z.two Z.Ip S ((w.aO d1).sub ((E6 L Z.po _).aO i)) k (P.congr fun t=>?_);show d2*(d1*g t-i*pS L s t)=d*g t-c*pS L s t;rw[M,r,q];simp only[rZ]
def Ou{M:Int}{W V:ae}(b:Zm M (fun t=>ev t W-ev t V))(c:∀k,2*((W.getD k 0).natAbs:Int)≤M)(d:∀k,2*((V.getD k 0).natAbs:Int)<M)(t:Int):ev t W=ev t V:=by obtain⟨g,⟨N,G,_,e⟩,f⟩:=b;refine eB (fun k=>?_) t;have h:=mG (l:=fk W (V.map fun x=>-1*x)) (m:=G.map fun x=>M*x) 0 (fun t _=>by have a:ev t W-ev t V=M*g t:=f t;rw[dM,bs,bs,←e,←a];omega) k;rw[cG,aS,aS]at h;have j:=c k;have n:=d k;have i:M∣W.getD k 0-V.getD k 0:=⟨G.getD k 0,o⟩;have p:=Cs i o;omega
def ku.mul{m:Int}(hm:cq m){a b q:Int→Int}(n:Po a)(j:Po b)(h:ku m a q)(p:ku m b q)(k:Po q):ku m (fun t=>a t*b t) q:=by obtain⟨u,v,c,l,r,s,w⟩:=h;obtain⟨d,e,c',f,g,x,i⟩:=p;refine⟨fun t=>u t*d t,fun t=>u t*a t*e t+v t*(d t*b t+e t*q t),c*c',l.mul f,((l.mul n).mul g).add (r.mul ((f.mul j).add (g.mul k))),hm.mul s x,?_⟩;refine((w.mul ((f.mul j).add (g.mul k))).add (i.aO c)).congr fun t=>?_;show u t*d t*(a t*b t)+(u t*a t*e t+v t*(d t*b t+e t*q t))*q t-c*c'=(d t*b t+e t*q t)*(u t*a t+v t*q t-c)+c*(d t*b t+e t*q t-c');simp only[rZ];omega
def ku.pow{m:Int}(hm:cq m){a q:Int→Int}(b:Po a)(h:ku m a q)(d:Po q):∀e,ku m (fun t=>a t^e) q
|0=>⟨fun _=>1,fun _=>0,1,Po.const 1,Po.zero,hm.2,Zm.aq _ fun t=>Y⟩
|e+1=>by obtain⟨u,v,c,f,g,i,j⟩:=ku.mul hm (b.pow e) b (ku.pow hm b h d e) h d;exact⟨u,v,c,f,g,i,j.congr fun t=>by show u t*a t^(e+1)+v t*q t-c=u t*(a t^e*a t)+v t*q t-c;rw[bW]⟩
def qU.Ef{m:Int}{r:Int→Int}(h:qU m r):∃d,0<d∧Dm m d r:=by obtain⟨b,c,e,_⟩:=h;obtain⟨n,b⟩:=b;rcases Zm.jS (m:=m) b with a|⟨d,_,a⟩;exact absurd a c;refine⟨d,?_,a⟩;rcases j5 d with rfl|f;exact absurd a e;exact f
def Dv.Ef{m:Int}(hm:cq m){a b:Int→Int}{d e:Nat}(l:Dm m d a)(n:Dm m e b)(h:Dv m a b):∃c s j,¬m∣c∧Dm m j s∧d+j=e∧Zm m (fun t=>c*b t-a t*s t):=by obtain⟨c,s,i,⟨N,p⟩,k⟩:=h;rcases Zm.jS (m:=m) p with f|⟨j,_,f⟩;exact absurd ((k.add (f.mul l.po)).congr (g:=fun t=>c*b t) fun t=>o) (n.aO hm i).not;exact⟨c,s,j,i,f,((l.mul hm f).alike (g:=fun t=>c*b t) k).uniq (n.aO hm i),k⟩
def mult{m:Int}(hm:cq m){r:Int→Int}(a:qU m r):∀(n:Nat) {f:Int→Int},Dm m n f→∃(e:Nat)(k:Int)(s:Int→Int),¬m∣k∧Po s∧¬Dv m r s∧Zm m (fun t=>k*f t-r t^e*s t):=by
 obtain⟨d,u,g⟩:=a.Ef;intro n;induction n using Nat.strongRecOn with
 |ind n i=>intro f b;by_cases h:Dv m r f;obtain⟨c,s,j,l,p,v,q⟩:=h.Ef hm g b;obtain⟨e,k,s',g1,g2,g3,g4⟩:=i j o p;refine⟨e+1,c*k,s',hm.mul l g1,g2,g3,((q.aO k).add (g4.mul a.1)).congr fun t=>?_⟩;show c*k*f t-r t^(e+1)*s' t=k*(c*f t-r t*s t)+r t*(k*s t-r t^e*s' t);rw[bW];generalize r t^e=x;simp only[rZ];omega;exact⟨0,1,f,hm.2,b.po,h,Zm.aq _ fun t=>Y⟩
def KE{m:Int}(hm:cq m):∀(n:Nat) {f:Int→Int},Dm m n f→0<n→∃r,qU m r∧Dv m r f:=by
 intro n;induction n using Nat.strongRecOn with
 |ind n z=>intro f p D;by_cases h:qU m f;exact⟨f,h,Dv.refl hm f⟩;(have v:∃(a b:Int→Int)(c:Int),Po a∧Po b∧¬m∣c∧Zm m (fun t=>c*f t-a t*b t)∧¬Dm m 0 a∧¬Dm m 0 b:=by refine kQ fun w=>h ⟨p.po,p.not,fun A=>?_,fun a b c v q k s=>?_⟩;have:=p.uniq A;omega;refine kQ fun d=>w ⟨a,b,c,v,q,k,s,fun h=>d (Or.inl h),fun h=>d (Or.inr h)⟩);obtain⟨a,b,c,⟨N,q⟩,⟨M,k⟩,s,d,B,C⟩:=v;have e:=p.aO hm s;rcases Zm.jS (m:=m) q with l|⟨i,_,l⟩;exact absurd ((d.add (l.mul k.po)).congr (g:=fun t=>c*f t) fun t=>by rw[bm (b t)];omega) e.not;rcases Zm.jS (m:=m) k with u|⟨j,_,u⟩;exact absurd ((d.add (u.mul q.po)).congr (g:=fun t=>c*f t) fun t=>o) e.not;have E:=((l.mul hm u).alike (g:=fun t=>c*f t) d).uniq e;have hi:i≠0:=fun h=>B (by rw[←h];exact l);have F:j≠0:=fun h=>C (by rw[←h];exact u);obtain⟨r,x,y⟩:=z i o l o;refine⟨r,x,Dv.BB hm s ((y.mul k.po).alike (d.congr fun t=>?_))⟩;rw[bm (b t)]
def afv{m:Int}(hm:cq m){a b:Int→Int}(j:Po a)(l:Po b)(p:¬Zm m a)(h:∀r,qU m r→Dv m r a→Dv m r b→False):ku m a b:=by obtain⟨n,q⟩:=l;obtain⟨u,v,d,c,s,w,g1,g2,⟨N,g3⟩,g4,g5,g6,g7,g8,g9,g10⟩:=L9 hm n j q (fun h=>p h.1);rcases Zm.jS (m:=m) g3 with f|⟨e,_,f⟩;exact absurd f g6;rcases j5 e with rfl|x;obtain⟨k,i,g⟩:=f.zero;exact⟨u,v,k,g1,g2,i,(g8.add g).congr fun t=>o⟩;obtain⟨r,i,g⟩:=KE hm e f x;exact(h r i (g.trans hm ⟨c,s,g7,g4,g9⟩) (g.trans hm ⟨c,w,g7,g5,g10⟩)).elim
def Zm.Sw{f:Int→Int}(h:Zm 0 f)(t:Int):f t=0:=by obtain⟨g,_,a⟩:=h;rw[a];simp
def dS{c:Int}:¬(0:Int)∣c↔c≠0:=⟨fun h e=>h (by rw[e];exact nQ _),fun h e=>h (vS.1 e)⟩
def qU.ad9{r a:Int→Int}(f:qU 0 r)(g:Dr r a):¬Dv 0 r a:=by obtain⟨d,u,b⟩:=f.Ef;obtain⟨c,i,m⟩:=Mm b;obtain⟨l,g1,g2,g3⟩:=m.list;have p:=(Dr.ev l).congr g3 fun _=>rfl;(have q:Ld (d-1) (d*c) a:=by(have v:(tz (der l)).length≤d:=fY fun k w=>by rw[xf,au o];simp);have e:=Ld.eM (l:=tz (der l)) (n:=d-1) o;rw[bN,xf,show d-1+1=d by omega,g2,show((d-1:Nat):Int)+1=d by omega]at e;exact e.congr fun t=>by rw[g.uniq p t,kL]);intro h;have s:Dm 0 (d-1) a:=tO q (tN o i);obtain⟨_,_,j,_,_,x,_⟩:=h.Ef cq.zero b s;omega
def Dr.pow{f a:Int→Int}(h:Dr f a):∀e:Nat,Dr (fun t=>f t^e) (fun t=>e*(f t^(e-1)*a t))
|0=>(Dr.const 1).congr (fun t=>Y) (fun t=>Y)
|e+1=>((Dr.pow h e).mul h).congr (fun t=>Ng) (fun t=>by
 rw[lu,show((e+1:Nat):Int)=e+1 by omega,c_,lC];congr 1;cases e with
 |zero=>simp
 |succ e=>rw[lu,bW];generalize f t^e=x;simp only[rZ])
def qU.MH{r f c:Int→Int}(b:qU 0 r)(A:Dr f c){e:Nat}{k:Int}{s:Int→Int}(B:k≠0)(m:Po s)(he:∀t,k*f t=r t^e*s t):(0<e→Dv 0 (fun t=>r t^(e-1)) c)∧(0<e→¬Dv 0 r s→¬Dv 0 (fun t=>r t^e) c):=by
 obtain⟨d,i⟩:=b.1.dr;obtain⟨s',n⟩:=m.dr;have u:∀t,k*c t=e*(r t^(e-1)*d t)*s t+r t^e*s' t:=by intro t;have q:=((Dr.const k).mul A).uniq (((i.pow e).mul n).congr he fun _=>rfl) t;simpa using q
 refine⟨fun C=>?_,fun C D E=>?_⟩;refine⟨k,fun t=>e*d t*s t+r t*s' t,dS.2 B,((i.2.1.aO e).mul m).add (b.1.mul n.2.1),Zm.aq _ fun t=>?_⟩;obtain⟨j,rfl⟩:∃j,e=j+1:=⟨e-1,o⟩;show k*c t-r t^(j+1-1)*(((j+1:Nat):Int)*d t*s t+r t*s' t)=0;rw[u,lu,bW];generalize r t^j=x;generalize((j+1:Nat):Int)=y;simp only[rZ];omega;obtain⟨a,w,q,v,F⟩:=E;obtain⟨j,rfl⟩:∃j,e=j+1:=⟨e-1,o⟩;have G:Zm 0 (fun t=>r t^j*(a*((j+1:Nat):Int)*(d t*s t)-r t*(k*w t-a*s' t))):=by refine Zm.aq _ fun t=>?_;have g:a*c t-r t^(j+1)*w t=0:=F.Sw t;have p:=u t;rw[lu,bW]at p;rw[bW]at g;have l:=jZ (fun z=>a*z) p;have H:=jZ (fun z=>k*z) g;revert l H;generalize r t^j=x;generalize((j+1:Nat):Int)=y;simp only[rZ];omega
 have I:Po (fun t=>a*((j+1:Nat):Int)*(d t*s t)-r t*(k*w t-a*s' t)):=((i.2.1.mul m).aO _).sub (b.1.mul ((v.aO k).sub (n.2.1.aO a)));rcases Zm.or cq.zero (b.1.pow j) I G with g|g;have:∀j,¬Zm 0 (fun t=>r t^j):=by
  intro j;induction j with
  |zero=>intro h;have:=h.Sw 0;simp at this
  |succ j K=>intro h;rcases Zm.or cq.zero (b.1.pow j) b.1 (h.congr fun t=>Ng)with h|h;exact K h;exact b.2.1 h
 exact this j g;have p:Dv 0 r (fun t=>d t*s t):=⟨a*((j+1:Nat):Int),fun t=>k*w t-a*s' t,cq.zero.mul q (dS.2 o),(v.aO k).sub (n.2.1.aO a),g⟩;rcases b.zG cq.zero i.2.1 m p with l|l;exact b.ad9 i l;exact D l
def Dv.af3{m:Int}(hm:cq m){r:Int→Int}(a:Po r){f:Int→Int}{i j:Nat}(h:i≤j)(b:Dv m (fun t=>r t^j) f):Dv m (fun t=>r t^i) f:=by refine Dv.trans hm (Dv.of_eq m hm (a.pow (j-i)) fun t=>?_) b;rw[←iF,show i+(j-i)=j by omega]
def aaR{f Q G q:Int→Int}{n:Nat}(R:Dr f Q)(S:Dm 0 n f)(T:Po G)(W:Po q)(y:∀r,Po r→(Dv 0 r f∧Dv 0 r Q↔Dv 0 r G))(e:∀t,f t=G t*q t):(∀r,qU 0 r→Dv 0 r f→Dv 0 r q)∧∀E,Dr q E→∀r,qU 0 r→Dv 0 r q→Dv 0 r E→False:=by
 have b:=cq.zero;refine⟨fun r a H=>?_,fun E I r a K L=>?_⟩;rcases a.TI b W with M|M;exfalso;obtain⟨d,k,s,A,p,B,F⟩:=mult b a n S;have l:∀t,k*f t=r t^d*s t:=fun t=>by have u:k*f t-r t^d*s t=0:=F.Sw t;omega
 have N:0<d:=by rcases j5 d with rfl|h;exfalso;refine B ((H.mul (Po.const k)).alike (Zm.aq _ fun t=>?_));rw[l];simp;exact h
 have u:Dv 0 (fun t=>r t^d) (fun t=>q t*G t):=⟨k,s,A,p,Zm.aq _ fun t=>by show k*(q t*G t)-r t^d*s t=0;rw[bm (q t),←e,l];omega⟩;have h8:=(ku.pow b a.1 M W d).dv b T u;have h9:=((y _ (a.1.pow d)).2 h8).2;exact(a.MH R (dS.1 A) p l).2 N B h9;exact M;obtain⟨d,k,s,A,p,B,F⟩:=mult b a n S;have l:∀t,k*f t=r t^d*s t:=fun t=>by have u:k*f t-r t^d*s t=0:=F.Sw t;omega
 obtain⟨c,g,g1,g2,g3⟩:=K;have g4:∀t,c*q t=r t*g t:=fun t=>by have u:c*q t-r t*g t=0:=g3.Sw t;omega
 obtain⟨X,O⟩:=a.1.dr;obtain⟨C,D⟩:=g2.dr;have g5:∀t,c*E t=X t*g t+r t*C t:=by intro t;have u:=((Dr.const c).mul I).uniq ((O.mul D).congr g4 fun _=>rfl) t;simpa using u
 have g6:Dv 0 r (fun t=>X t*g t):=by refine((L.mul (Po.const c)).add b ((Dv.refl b r).mul D.2.1.neg)).alike (Zm.aq _ fun t=>?_);rw[g5,jk,bm (C t)];omega
 have g7:Dv 0 r g:=(a.zG b O.2.1 g2 g6).resolve_left (a.ad9 O);obtain⟨i,v,g8,g9,g10⟩:=g7;have N:0<d:=by rcases j5 d with rfl|h;exfalso;refine B ?_;have:Dv 0 r f:=(Dv.mul T ⟨c,g,g1,g2,g3⟩).alike (Zm.aq _ fun t=>Cv);refine(this.mul (Po.const k)).alike (Zm.aq _ fun t=>?_);rw[l];simp;exact h
 have g11:Dv 0 (fun t=>r t^(d-1)) G:=by refine(y _ (a.1.pow _)).1 ⟨Dv.af3 b a.1 (show d-1≤d by omega) ⟨k,s,A,p,F⟩,(a.MH R (dS.1 A) p l).1 N⟩
 obtain⟨m,w,g12,g13,g14⟩:=g11;obtain⟨j,rfl⟩:∃j,d=j+1:=⟨d-1,o⟩;have g15:Zm 0 (fun t=>r t^(j+1)*(m*i*c*s t-k*(r t*(w t*v t)))):=by refine Zm.aq _ fun t=>?_;have P:=l t;have e2:m*G t-r t^(j+1-1)*w t=0:=g14.Sw t;have e3:i*g t-r t*v t=0:=g10.Sw t;have e4:=g4 t;rw[lu]at e2;rw[e]at P;rw[bW]at P ⊢;have f1:=jZ (fun z=>m*i*c*z) P;(have f2:m*G t*(i*(c*q t))=r t^j*w t*(r t*(r t*v t)):=by rw[e4,show m*G t=r t^j*w t by omega,gy i,show i*g t=r t*v t by omega]);have f3:=jZ (fun z=>k*z) f2;revert f1 f3;generalize r t^j=x;simp only[rZ];omega
 have aF:∀j,¬Zm 0 (fun t=>r t^j):=by
  intro j;induction j with
  |zero=>intro h;have:=h.Sw 0;simp at this
  |succ j ih=>intro h;rcases Zm.or b (a.1.pow j) a.1 (h.congr fun t=>Ng)with h|h;exact ih h;exact a.2.1 h
 have sC:Po (fun t=>m*i*c*s t-k*(r t*(w t*v t))):=(p.aO _).sub ((a.1.mul (g13.mul g9)).aO k);have g16:=(Zm.or b (a.1.pow _) sC g15).resolve_left (aF _);exact B ⟨m*i*c,fun t=>k*(w t*v t),b.mul (b.mul g12 g8) g1,(g13.mul g9).aO k,g16.congr fun t=>by rw[gy (r t)]⟩
def ox:Nat→Int
|0=>1
|n+1=>(n+1)*ox n
def qP:∀n,0<ox n
|0=>J
|n+1=>BV o (qP n)
def sm(F:Nat→Int):Nat→Int
|0=>0
|n+1=>sm F n+F n
def vY(F G:Nat→Int):∀n,sm (fun k=>F k+G k) n=sm F n+sm G n
|0=>rfl
|n+1=>by simp only[sm,vY F G n];omega
def oV(c:Int)(F:Nat→Int):∀n,sm (fun k=>c*F k) n=c*sm F n
|0=>Cu
|n+1=>by simp only[sm,oV c F n,dE]
def cP{F G:Nat→Int}:∀n,(∀k,k<n→F k=G k)→sm F n=sm G n
|0,_=>rfl
|n+1,h=>by simp only[sm,cP n fun k a=>h k o,h n o]
def mU:∀n,sm (fun _=>0) n=0
|0=>rfl
|n+1=>by simp only[sm,mU n];omega
def Ps{F G:Nat→Int}:∀n,(∀k,k<n→F k≤G k)→sm F n≤sm G n
|0,_=>Int.le_refl _
|n+1,h=>by have a:=Ps n fun k b=>h k o;have c:=h n o;simp only[sm];omega
def qj{F:Nat→Int}(n:Nat)(h:∀k,k<n→0≤F k):0≤sm F n:=by have:=Ps n h;rwa[mU]at this
def Lr{F:Nat→Int}:∀ {n j:Nat},j<n→(∀k,k<n→0≤F k)→F j≤sm F n
|0,j,h,_=>o
|n+1,j,h,a=>by simp only[sm];have d:=qj n fun k b=>a k o;have e:=a n o;rcases(show j=n∨j<n by omega)with rfl|c;omega;have:=Lr c fun k b=>a k o;omega
def iH(F:Nat→Int):∀n,sm F (n+1)=F 0+sm (fun k=>F (k+1)) n
|0=>Cu
|n+1=>by have:=iH F n;simp only[sm]at this ⊢;omega
def fp(N:Nat)(u v:Nat→Int):Int:=sm (fun k=>ox k*(u k*v k)) N
def nt(N:Nat)(u v:Nat→Int):fp N u v=fp N v u:=cP N fun k _=>by rw[bm (u k)]
def GV(N:Nat)(u v w:Nat→Int):fp N (fun k=>u k+v k) w=fp N u w+fp N v w:=by unfold fp;rw[←vY];exact cP N fun k _=>by rw[c_,dE]
def uq(N:Nat)(c:Int)(u w:Nat→Int):fp N (fun k=>c*u k) w=c*fp N u w:=by unfold fp;rw[←oV];exact cP N fun k _=>by rw[bB,gy]
def xG(N:Nat)(u v w:Nat→Int):fp N w (fun k=>u k+v k)=fp N w u+fp N w v:=by rw[nt,GV,nt N u,nt N v]
def pT(N:Nat)(c:Int)(u w:Nat→Int):fp N w (fun k=>c*u k)=c*fp N w u:=by rw[nt,uq,nt]
def xP(N:Nat)(w:Nat→Int):fp N w (fun _=>0)=0:=by unfold fp;rw[cP N (G:=fun _=>0) fun k _=>Y,mU]
def sq_nonneg(a:Int):0≤a*a:=by rcases Int.le_total 0 a with h|h;exact fO h h;exact agw h h
def QP(N:Nat)(u:Nat→Int):0≤fp N u u:=qj N fun k _=>fO (eC (qP k)) (sq_nonneg _)
def cX(u:Nat→Int):Nat→Int:=fun k=>if k=0 then 0 else u (k-1)
def cD(u:Nat→Int):Nat→Int:=fun k=>(k+1)*u (k+1)
def Sp(n:Nat)(u:Nat→Int):Prop:=∀k,n≤k→u k=0
def Sp.mono{n m:Nat}{u:Nat→Int}(h:Sp n u)(hm:n≤m):Sp m u:=fun k a=>h k o
def Sp.cD{n:Nat}{u:Nat→Int}(h:Sp n u):Sp n (cD u):=fun k a=>by show(_:Int)*u (k+1)=0;rw[h (k+1) o];simp
def Sp.cX{n:Nat}{u:Nat→Int}(h:Sp n u):Sp (n+1) (cX u):=fun k a=>by show(if k=0 then 0 else u (k-1))=0;rw[U o,h (k-1) o]
def ajS(u:Nat→Int)(k:Nat):cD (cX u) k=cX (cD u) k+u k:=by
 show((k:Int)+1)*(if k+1=0 then 0 else u (k+1-1))=(if k=0 then 0 else(((k-1:Nat):Int)+1)*u (k-1+1))+u k;rw[U o,lu];cases k with
 |zero=>simp
 |succ k=>rw[U o,lu,c_,lC];congr 1
def UK(u v:Nat→Int)(k:Nat):cD (fun k=>u k+v k) k=cD u k+cD v k:=dE ..
def OK(c:Int)(u:Nat→Int)(k:Nat):cD (fun k=>c*u k) k=c*cD u k:=by show(_:Int)*(c*u (k+1))=c*(_*u (k+1));rw[gy]
def ahe(u v:Nat→Int)(k:Nat):cX (fun k=>u k+v k) k=cX u k+cX v k:=by show(if k=0 then 0 else u (k-1)+v (k-1))=(if k=0 then 0 else u (k-1))+(if k=0 then 0 else v (k-1));split<;>simp
def VW{N:Nat}(u:Nat→Int){v:Nat→Int}(a:Sp N v):fp N (cX u) v=fp N u (cD v):=by
 cases N with
 |zero=>rfl
 |succ n=>unfold fp;rw[iH];show ox 0*((if(0:Nat)=0 then 0 else u (0-1))*v 0)+sm (fun k=>ox (k+1)*((if k+1=0 then 0 else u (k+1-1))*v (k+1))) n=sm (fun k=>ox k*(u k*cD v k)) n+ox n*(u n*((n+1)*v (n+1)));rw[a (n+1) (Z _)];simp only[if_true,lr,jw,yw,nY];refine cP n fun k _=>?_;rw[U o,lu];show((k:Int)+1)*ox k*(u k*v (k+1))=ox k*(u k*(((k:Int)+1)*v (k+1)));generalize((k:Int)+1)=q;simp only[rZ]
def mS:ae→Nat→(Nat→Int)→Nat→Int
| [],_,_=>fun _=>0
|a::h,s,v=>fun k=>(if s=0 then a else 0)*v k+(cX (mS h s v) k+s*mS h (s-1) v k)
def aD:ae→Nat→(Nat→Int)→Nat→Int
| [],_,_=>fun _=>0
|a::h,s,v=>fun k=>(if s=0 then a else 0)*v k+(aD h s (cD v) k+s*aD h (s-1) v k)
def Sp.mS:∀(h:ae) (s:Nat) {n:Nat} {v:Nat→Int},Sp n v→Sp (n+h.length) (mS h s v)
| [],s,n,v,_=>fun k _=>rfl
|a::h,s,n,v,b=>fun k hk=>by have c:=(Sp.mS h s b).cX k KP;have d:=Sp.mS h (s-1) b k KP;simp only[Go.Proofs.YtldcjkhbiffdoaaGreatDoor.mS];rw[b k KP,c,d];simp
def Sp.mS1:∀(h:ae) (s:Nat) {n:Nat} {v:Nat→Int},Sp n v→0<n→Sp (n+h.length-1) (Go.Proofs.YtldcjkhbiffdoaaGreatDoor.mS h s v)
| [],s,n,v,_,_=>fun k _=>rfl
|a::h,s,n,v,b,c=>fun k hk=>by have d:=(Sp.mS1 h s b c).cX k KP;have e:=Sp.mS1 h (s-1) b c k KP;simp only[Go.Proofs.YtldcjkhbiffdoaaGreatDoor.mS];rw[b k KP,d,e];simp
def SU:∀(h:ae)(s:Nat)(v:Nat→Int)(k:Nat),cD (mS h s v) k=mS h s (cD v) k+mS h (s+1) v k
| [],s,v,k=>by show(_:Int)*0=0+0;simp
|a::h,s,v,k=>by
 show cD (fun k=>(if s=0 then a else 0)*v k+(cX (mS h s v) k+s*mS h (s-1) v k)) k=_;rw[UK,UK,OK,OK,ajS];have b:cX (cD (mS h s v)) k=cX (fun k=>mS h s (cD v) k+mS h (s+1) v k) k:=by congr 1;exact funext fun j=>SU h s v j
 rw[b,ahe];simp only[mS];rw[U (show ¬s+1=0 by omega),lu];cases s with
 |zero=>simp;omega
 |succ s=>rw[SU h (s+1-1) v k,show s+1-1+1=s+1 by omega,dE];rw[U o,show((s+1+1:Nat):Int)=((s+1:Nat):Int)+1 by omega,c_];omega
def TJ{N:Nat}:∀(h:ae) (s:Nat) (u:Nat→Int) {v:Nat→Int},Sp N v→fp N (mS h s u) v=fp N u (aD h s v)
| [],s,u,v,_=>by show fp N (fun _=>0) v=fp N u (fun _=>0);rw[nt,xP,xP]
|a::h,s,u,v,b=>by simp only[mS,aD];rw[GV,GV,uq,uq,VW _ b,TJ h s u b.cD,TJ h (s-1) u b,xG,xG,pT,pT]
def Np{N:Nat}{W:Nat→Int}(c:ae)(u:Nat→Int)(hu:Sp N u):∀(d:ae) (n b:Nat) {v:Nat→Int},d.length≤n→(∀s,0<s→s<n→W s*s=W (s-1))→(∃m,Sp m v∧m+c.length≤N)→W 0*fp N (mS d 0 u) (mS c b v)=sm (fun s=>W s*fp N (aD c (b+s) u) (aD d s v)) n
| [],n,b,v,_,_,_=>by(have:∀w,fp N (mS [] 0 u) w=0:=fun w=>by rw[nt];exact xP N w);rw[this,jw];refine((cP n fun s _=>?_).trans (mU n)).symm;show W s*fp N _ (fun _=>0)=0;rw[xP];simp
|a::k,n,b,v,hn,f,⟨m,g,hm⟩=>by
 obtain⟨n,rfl⟩:∃h,n=h+1:=⟨n-1,by simp at hn;omega⟩;have i:k.length≤n:=Mi;have hS:Sp N (mS c b v):=(Sp.mS c b g).mono hm;have l1:mS (a::k) 0 u=fun j=>a*u j+cX (mS k 0 u) j:=funext fun j=>by simp[mS]
 have l2:cD (mS c b v)=fun j=>mS c b (cD v) j+mS c (b+1) v j:=funext fun j=>SU c b v j;have l:fp N u (mS c b v)=fp N (aD c b u) v:=by rw[nt,TJ c b v hu,nt]
 rw[l1,GV,uq,VW _ hS,l2,xG,l,dE,dE];rw[Np c u hu k (n+1) b (v:=cD v) o f ⟨m,g.cD,hm⟩];rw[Np c u hu k n (b+1) (v:=v) i (fun s d c=>f s d o) ⟨m,g,hm⟩];have p:sm (fun s=>W s*fp N (aD c (b+s) u) (aD (a::k) s v)) (n+1)=sm (fun s=>(if s=0 then W 0*(a*fp N (aD c b u) v)else 0)+(W s*fp N (aD c (b+s) u) (aD k s (cD v))+W s*s*fp N (aD c (b+s) u) (aD k (s-1) v))) (n+1):=by refine cP _ fun s _=>?_;simp only[aD];rw[xG,xG,pT,pT,dE,dE,←bB (W s) (s:Int)];congr 1;by_cases e:s=0;subst e;simp;rw[U e,U e];simp
 rw[p,vY,vY];have q:sm (fun s=>if s=0 then W 0*(a*fp N (aD c b u) v)else 0) (n+1)=W 0*(a*fp N (aD c b u) v):=by rw[iH,V rfl,cP n (G:=fun _=>0) fun s _=>Y,mU];simp
 have r:sm (fun s=>W s*(s:Int)*fp N (aD c (b+s) u) (aD k (s-1) v)) (n+1)=sm (fun s=>W s*fp N (aD c (b+1+s) u) (aD k s v)) n:=by rw[iH];simp only[Int.ofNat_zero,jw,lr,yw,v_];refine cP n fun s e=>?_;rw[f (s+1) o o,lu,show b+(s+1)=b+1+s by omega]
 rw[q,r];try omega
def Bp:∀(h:ae)(s:Nat)(v:Nat→Int)(k:Nat),h.length≤s→aD h s v k=0
| [],s,v,k,_=>rfl
|a::h,s,v,k,b=>by simp only[kO]at b;simp only[aD];rw[U o,Bp h s _ k o,Bp h (s-1) v k o];simp
def Wh:∀(h:ae)(s:Nat)(v:Nat→Int)(k:Nat),h.length=s+1→aD h s v k=ox s*(h.getD s 0*v k)
| [],s,v,k,h=>cT
|a::h,s,v,k,b=>by
 simp only[kO]at b;simp only[aD];rw[Bp h s _ k o];cases s with
 |zero=>simp[ox]
 |succ s=>rw[U o,lu,Wh h s v k o];simp only[ox,sW,lr,yw];rw[show((s+1:Nat):Int)=(s:Int)+1 by omega,bB]
def z6(d:Nat):Nat→Int
|0=>1
|j+1=>z6 d j*((d:Int)-j)
def ZZ(h:ae)(d:Nat)(g:h.length=d+1)(N m:Nat)(u:Nat→Int)(hu:Sp m u)(r:m+(d+1)≤N):ox d*(h.getD d 0*h.getD d 0)*fp N u u≤fp N (mS h 0 u) (mS h 0 u):=by
 have i:∀s,0<s→s<d+1→z6 d (d-s)*(s:Int)=z6 d (d-(s-1)):=by intro s e a;rw[show d-(s-1)=(d-s)+1 by omega];show _=z6 d (d-s)*((d:Int)-((d-s:Nat):Int));congr 1;omega
 have b:∀j,j≤d→0≤z6 d j:=by
  intro j;induction j with
  |zero=>intro _;show(0:Int)≤1;decide
  |succ j c=>intro l;exact fO (c o) o
 have key:=Np (W:=fun s=>z6 d (d-s)) h u (hu.mono (show m≤N by omega)) h (d+1) 0 (v:=u) o i ⟨m,hu,o⟩;have e:∀s,s<d+1→0≤z6 d (d-s)*fp N (aD h (0+s) u) (aD h s u):=fun s _=>by rw[pH];exact fO (b _ o) (QP N _)
 have a:=Lr (j:=d) o e;rw[←key]at a;have n:aD h d u=fun k=>ox d*(h.getD d 0*u k):=funext fun k=>Wh h d u k g;have p:z6 d (d-0)=ox d:=by
  have:∀j,j≤d→z6 d j*ox (d-j)=ox d:=by
   intro j;induction j with
   |zero=>intro _;simp[z6]
   |succ j c=>intro l;rw[←c o,show d-j=(d-(j+1))+1 by omega];simp only[z6,ox];rw[bB];congr 2;omega
  have f:=this d (Z _);rw[C7]at f;rw[yN,←f];simp[ox]
 simp only[pH,C7]at a;rw[n,uq,uq,pT,pT,p]at a;have q:z6 d 0*(ox d*(h.getD d 0*(ox d*(h.getD d 0*fp N u u))))=ox d*(ox d*(h.getD d 0*h.getD d 0)*fp N u u):=by show 1*_=_;simp only[rZ]
 rw[q]at a;exact agS a (qP d)
def nO:ae→ae→ae
| [],_=> []
|a::h,m=>fk (m.map fun x=>a*x) (0::nO h m)
def rF(t:Int):∀h m,ev t (nO h m)=ev t h*ev t m
| [],m=>by simp[nO,ev]
|a::h,m=>by simp only[nO,dM,bs,ev,rF t h m,c_,yw,bB]
def zt:∀(h m:ae)(k:Nat),(nO h m).getD k 0=mS h 0 (fun j=>m.getD j 0) k
| [],m,k=>by simp[nO,mS]
|a::h,m,k=>by
 simp only[nO,cG,aS,mS,if_true,v_,lr,nY];congr 1;show _=if k=0 then 0 else mS h 0 (fun j=>m.getD j 0) (k-1);cases k with
 |zero=>simp
 |succ k=>rw[U o,lu,←zt h m k];simp
def eT:ae→Nat
| []=>0
|a::l=>a.natAbs+eT l
def sc(e:Nat):ae→ae
| []=> []
|a::l=>(2^e*a)::sc (e-1) l
def Aw:∀(e:Nat)(l:ae)(k:Nat),(sc e l).getD k 0=2^(e-k)*l.getD k 0
|e,[],k=>by simp[sc]
|e,a::l,0=>by simp[sc]
|e,a::l,k+1=>by simp only[sc,sW,Aw (e-1) l k];rw[show e-1-k=e-(k+1) by omega]
def My:∀(e:Nat)(l:ae),(sc e l).length=l.length
|e,[]=>rfl
|e,a::l=>by simp[sc,My (e-1) l]
def acw:∀(h:ae)(d m:Nat)(u v:Nat→Int)(k:Nat),h.length=d+1→(∀j,v j=2^(m-j)*u j)→Sp (m+1) u→mS (sc d h) 0 v k=2^(d+m-k)*mS h 0 u k
| [],d,m,u,v,k,hd,_,_=>by simp at hd
|a::h,d,m,u,v,k,hd,b,hu=>by
 simp only[sc,mS,if_true,v_,lr,nY];have c:2^d*a*v k=2^(d+m-k)*(a*u k):=by rw[b];by_cases e:k≤m;rw[show d+m-k=d+(m-k) by omega,iF];generalize(2:Int)^d=x;generalize(2:Int)^(m-k)=y;simp only[rZ];rw[hu k o];simp
 rw[dE,c];congr 1;show(if k=0 then 0 else mS (sc (d-1) h) 0 v (k-1))=2^(d+m-k)*(if k=0 then 0 else mS h 0 u (k-1));cases k with
 |zero=>simp
 |succ k=>
  rw[U o,U o,lu];cases d with
  |zero=>obtain rfl:h=[]:=ij.1 SS;simp[sc,mS]
  |succ d=>rw[lu,acw h d m u v k SS b hu];rw[show d+1+m-(k+1)=d+m-k by omega]
def weights:∀n,n<11→∀d,d<n+1→∀j,j<n-d+1→∀k,k<n+1→ox k*4^(n-k)≤4^n*(ox d*(ox j*4^(n-d-j))):=SQ
def acY(F:Nat→Int):∀n,sm (fun k=>F k*F k) n≤sm (fun k=>(F k).natAbs) n*sm (fun k=>(F k).natAbs) n
|0=>Cu
|n+1=>by have c:=acY F n;have a:0≤sm (fun k=>((F k).natAbs:Int)) n:=qj n fun k _=>o;simp only[sm];generalize sm (fun k=>((F k).natAbs:Int)) n=S at*;(have b:F n*F n=((F n).natAbs:Int)*((F n).natAbs:Int):=by rw[←kI];exact Int.natAbs_mul_self.symm);have d:=fO a (show(0:Int)≤((F n).natAbs:Int) by omega);rw[b,dE,c_,c_,bm ((F n).natAbs:Int) S];omega
def Gv:∀(l:ae)(n:Nat),sm (fun k=>((l.getD k 0).natAbs:Int)) n≤eT l
| [],n=>by rw[cP n (G:=fun _=>0) fun k _=>Y,mU];simp[eT]
|a::l,0=>Cu
|a::l,n+1=>by rw[iH];have:=Gv l n;simp only[sW,UL,eT];omega
def Hk{a b:Int}(d:0≤b)(h:a*a≤b*b):(a.natAbs:Int)≤b:=by rcases(show b<(a.natAbs:Int)∨(a.natAbs:Int)≤b by omega)with c|c;exfalso;have e:b*b<(a.natAbs:Int)*(a.natAbs:Int):=Int.lt_of_le_of_lt (mQ (eC c) d) (V9 c o);rw[←kI,Int.natAbs_mul_self]at e;omega;exact c
def J3{f g h:ae}{n m d:Nat}(G:n≤10)(v:m+d=n)(H:g.length≤m+1)(l:h.length=d+1)(w:∀t,ev t f=ev t g*ev t h)(j:Nat):((h.getD d 0*g.getD j 0).natAbs:Int)≤2^n*eT f:=by
 rcases aX m j with z|z;rw[au (show g.length≤j by omega)];simp only[jw,Int.natAbs_zero];exact fO (eC (ky J)) o;have p:Sp (m+1) (fun k=>g.getD k 0):=fun k b=>au o;have e:Sp (m+1) (fun k=>(sc m g).getD k 0):=fun k b=>au (by rw[My];omega);have q:∀k,f.getD k 0=mS h 0 (fun k=>g.getD k 0) k:=by intro k;rw[←zt];exact mG 0 (fun t _=>by rw[rF,w,bm]) k
 have key:=ZZ (sc d h) d (by rw[My];exact l) (m+1+(d+1)) (m+1) _ e (Z _);have A:(sc d h).getD d 0=h.getD d 0:=by rw[Aw,C7];simp
 rw[A]at key;have B:ox j*((2^(m-j)*g.getD j 0)*(2^(m-j)*g.getD j 0))≤fp (m+1+(d+1)) (fun k=>(sc m g).getD k 0) (fun k=>(sc m g).getD k 0):=by have:=Lr (F:=fun k=>ox k*((sc m g).getD k 0*(sc m g).getD k 0)) (n:=m+1+(d+1)) (j:=j) o (fun k _=>fO (eC (qP k)) (sq_nonneg _));simp only[Aw]at this ⊢;exact this
 have C:fp (m+1+(d+1)) (mS (sc d h) 0 fun k=>(sc m g).getD k 0) (mS (sc d h) 0 fun k=>(sc m g).getD k 0)=sm (fun k=>ox k*4^(n-k)*(f.getD k 0*f.getD k 0)) (m+1+(d+1)):=by refine cP _ fun k b=>?_;rw[acw h d m (fun k=>g.getD k 0) _ k l (fun j=>Aw m g j) p,←q,show d+m-k=n-k by omega];(have D:(4:Int)^(n-k)=2^(n-k)*2^(n-k):=by rw[←GX];rfl);rw[D];generalize(2:Int)^(n-k)=x;simp only[rZ]
 rw[C]at key;have i:∀k,n<k→f.getD k 0=0:=by intro k b;rw[q];exact Sp.mS1 h 0 p o k o
 have r:sm (fun k=>ox k*4^(n-k)*(f.getD k 0*f.getD k 0)) (m+1+(d+1))≤sm (fun k=>4^n*(ox d*(ox j*4^(n-d-j)))*(f.getD k 0*f.getD k 0)) (m+1+(d+1)):=by refine Ps _ fun k b=>?_;rcases aX n k with c|c;rw[i k c];simp;exact l_ (weights n o d o j o k o) (sq_nonneg _)
 rw[oV]at r;have c:=yi (acY (fun k=>f.getD k 0) (m+1+(d+1))) (rB (Gv f _) (Gv f _) (qj _ fun k _=>o) o);have hw:0<ox d*(ox j*4^(n-d-j)):=BV (qP d) (BV (qP j) (ky J));have s:ox d*(h.getD d 0*h.getD d 0)*(ox j*((2^(m-j)*g.getD j 0)*(2^(m-j)*g.getD j 0)))≤4^n*(ox d*(ox j*4^(n-d-j)))*((eT f:Int)*eT f):=by refine yi (mQ B (fO (eC (qP d)) (sq_nonneg _))) (yi key (yi r ?_));exact mQ c (fO (eC (ky J)) (eC hw))
 have u:(4:Int)^(n-d-j)=2^(m-j)*2^(m-j):=by rw[←GX,show n-d-j=m-j by omega];rfl
 have E:(4:Int)^n=2^n*2^n:=by rw[←GX];rfl
 refine Hk (fO (eC (ky J)) o) (agS (a:=ox d*(ox j*4^(n-d-j))) ?_ hw);rw[u,E]at s;rw[u];refine yi (Int.le_of_eq ?_) (yi s (Int.le_of_eq ?_));generalize(2:Int)^(m-j)=x;simp only[rZ];generalize(2:Int)^(m-j)=x;generalize(2:Int)^n=y;simp only[rZ]
end Go.Proofs.YtldcjkhbiffdoaaGreatDoor
