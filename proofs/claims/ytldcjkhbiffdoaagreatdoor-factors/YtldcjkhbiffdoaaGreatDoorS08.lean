import Derived.Test.YtldcjkhbiffdoaaGreatDoorS02
set_option maxRecDepth 100000
set_option maxHeartbeats 40000000
set_option linter.unusedSimpArgs false
set_option linter.defProp false
namespace Go.Proofs.YtldcjkhbiffdoaaGreatDoor
open Go.RowKit Go.Proofs.Tryz
def fk:ae→ae→ae
| [],m=>m
|a::l,[]=>a::l
|a::l,b::m=>(a+b)::fk l m
def dM(t:Int):∀l m,ev t (fk l m)=ev t l+ev t m
| [],m=>by simp[fk,ev]
|a::l,[]=>by simp[fk,ev]
|a::l,b::m=>by simp only[fk,ev,dM t l m,dE];omega
def nM:∀(l m:ae)(n:Nat),l.length≤n→m.length≤n→(fk l m).length≤n
| [],m,n,_,h=>by simpa[fk]using h
|a::l,[],n,h,_=>by simpa[fk]using h
|a::l,b::m,n,c,d=>by
 cases n with
 |zero=>simp at c
 |succ n=>simp only[fk,kO]at*;have:=nM l m n o o;omega
def bs(t c:Int):∀l:ae,ev t (l.map fun x=>c*x)=c*ev t l
| []=>gQ
|a::l=>by simp only[pK,ev,bs t c l,dE];rw[gy]
def NT(t:Int)(n:Nat)(l:ae):ev t (List.replicate n 0++l)=t^n*ev t l:=by rw[ur,nX,List.length_replicate];omega
def Pl(n:Nat)(f:Int→Int):Prop:=∃l:ae,l.length≤n∧∀t,f t=ev t l
def Po(f:Int→Int):Prop:=∃n,Pl n f
def Pl.po{n:Nat}{f:Int→Int}(h:Pl n f):Po f:=⟨n,h⟩
def Pl.mono{n m:Nat}{f:Int→Int}(h:Pl n f)(hm:n≤m):Pl m f:=by obtain⟨l,b,a⟩:=h;exact⟨l,o,a⟩
def Pl.congr{n:Nat}{f g:Int→Int}(h:Pl n f)(e:∀t,g t=f t):Pl n g:=by obtain⟨l,a,h2⟩:=h;exact⟨l,a,fun t=>NN⟩
def Po.congr{f g:Int→Int}(h:Po f)(e:∀t,g t=f t):Po g:=by obtain⟨n,h⟩:=h;exact⟨n,h.congr e⟩
def Pl.ev(l:ae):Pl l.length (fun t=>ev t l):=⟨l,Z _,fun _=>rfl⟩
def Pl.zero(n:Nat):Pl n (fun _=>0):=⟨[],Y,fun t=>rfl⟩
def Pl.const(c:Int):Pl 1 (fun _=>c):=⟨[c],Y,fun t=>ain⟩
def Pl.add{n:Nat}{f g:Int→Int}(a:Pl n f)(b:Pl n g):Pl n (fun t=>f t+g t):=by obtain⟨l,c,d⟩:=a;obtain⟨m,e,h⟩:=b;exact⟨fk l m,nM l m n c e,fun t=>by simp only[dM,d,h]⟩
def Pl.aO{n:Nat}{f:Int→Int}(c:Int)(a:Pl n f):Pl n (fun t=>c*f t):=by obtain⟨l,h1,b⟩:=a;exact⟨l.map fun x=>c*x,l9,fun t=>by simp only[bs,b]⟩
def Pl.neg{n:Nat}{f:Int→Int}(a:Pl n f):Pl n (fun t=>-f t):=(a.aO (-1)).congr fun t=>o
def Pl.sub{n:Nat}{f g:Int→Int}(a:Pl n f)(b:Pl n g):Pl n (fun t=>f t-g t):=(a.add b.neg).congr fun t=>o
def Pl.shift{n:Nat}{f:Int→Int}(k:Nat)(a:Pl n f):Pl (k+n) (fun t=>t^k*f t):=by obtain⟨l,c,b⟩:=a;exact⟨List.replicate k 0++l,aZ,fun t=>by simp only[NT,b]⟩
def Pl.mW(k:Nat):Pl (k+1) (fun t=>t^k):=((Pl.const 1).shift k).congr fun t=>Y
def Pl.mul{n m:Nat}{f g:Int→Int}(b:Pl n f)(c:Pl (m+1) g):Pl (n+m) (fun t=>f t*g t):=by
 obtain⟨l,d,e⟩:=b;have:∀(l:ae)(n:Nat),l.length≤n→Pl (n+m) (fun t=>Go.Proofs.YtldcjkhbiffdoaaGreatDoor.ev t l*g t):=by
  intro l;induction l with
  |nil=>intro n _;exact(Pl.zero _).congr fun t=>ain
  |cons a l h=>
   intro n hn;cases n with
   |zero=>simp at hn
   |succ n=>have i:=(h n Mi).shift 1;have j:=c.aO a;refine((j.mono (show m+1≤n+1+m by omega)).add (i.mono (show 1+(n+m)≤n+1+m by omega))).congr fun t=>?_;simp only[Go.Proofs.YtldcjkhbiffdoaaGreatDoor.ev,c_,lG,bB]
 exact(this l n d).congr fun t=>by rw[e]
def Pl.awr{n m:Nat}{f g:Int→Int}(a:Pl n f)(b:Pl m g):Pl (n+m) (fun t=>f t*g t):=(a.mul (m:=m) (b.mono o))
def Po.zero:Po (fun _=>0):=⟨0,Pl.zero 0⟩
def Po.const(c:Int):Po (fun _=>c):=⟨1,Pl.const c⟩
def Po.ev(l:ae):Po (fun t=>Go.Proofs.YtldcjkhbiffdoaaGreatDoor.ev t l):=⟨_,Pl.ev l⟩
def Po.add{f g:Int→Int}(a:Po f)(b:Po g):Po (fun t=>f t+g t):=by obtain⟨n,a⟩:=a;obtain⟨m,b⟩:=b;exact⟨n+m,(a.mono o).add (b.mono o)⟩
def Po.mul{f g:Int→Int}(a:Po f)(b:Po g):Po (fun t=>f t*g t):=by obtain⟨n,a⟩:=a;obtain⟨m,b⟩:=b;exact⟨n+m,a.awr b⟩
def Po.aO{f:Int→Int}(c:Int)(a:Po f):Po (fun t=>c*f t):=(Po.const c).mul a
def Po.neg{f:Int→Int}(a:Po f):Po (fun t=>-f t):=(a.aO (-1)).congr fun t=>o
def Po.sub{f g:Int→Int}(a:Po f)(b:Po g):Po (fun t=>f t-g t):=(a.add b.neg).congr fun t=>o
def Po.mW(k:Nat):Po (fun t=>t^k):=⟨_,Pl.mW k⟩
def Po.pow{f:Int→Int}(a:Po f):∀k,Po (fun t=>f t^k)
|0=>(Po.const 1).congr fun t=>Y
|k+1=>((a.pow k).mul a).congr fun t=>Ng
def Pt:∀(l:ae)(N:Int),(∀t,N≤t→ev t l=0)→∀k,l.getD k 0=0
| [],_,_=>fun k=>Y
|a::l,N,h=>by
 have d:a=0:=by obtain⟨t,e,g,i⟩:∃t:Int,N≤t∧0<t∧(a.natAbs:Int)<t:=⟨max N 0+a.natAbs+1,o,o,o⟩;have b:=h t e;simp only[ev]at b;have c:t∣a:=⟨-ev t l,by rw[kT];omega⟩;refine Cs c ?_;omega
 subst d;have f:=Pt l (max N 1) (fun t j=>by have b:=h t o;simp only[ev,yw]at b;rcases Hi.1 b with c|c;omega;exact c);intro k;cases k with
 |zero=>rfl
 |succ k=>simpa using f k
def cG:∀(l m:ae)(k:Nat),(fk l m).getD k 0=l.getD k 0+m.getD k 0
| [],m,k=>by simp[fk]
|a::l,[],k=>by simp[fk]
|a::l,b::m,0=>by simp[fk]
|a::l,b::m,k+1=>by simpa[fk]using cG l m k
def mG{l m:ae}(N:Int)(h:∀t,N≤t→ev t l=ev t m)(k:Nat):l.getD k 0=m.getD k 0:=by have:=Pt (fk l (m.map fun x=>-1*x)) N (fun t a=>by rw[dM,bs,h t a];omega) k;rw[cG,aS]at this;omega
def eB{l m:ae}(h:∀k,l.getD k 0=m.getD k 0)(t:Int):ev t l=ev t m:=by
 have aux:∀(l:ae),(∀k,l.getD k 0=0)→ev t l=0:=by
  intro l;induction l with
  |nil=>intro _;rfl
  |cons a l c=>intro h;have b:=h 0;have d:=c fun k=>OF;simp at b;simp[ev,b,d]
 have:=aux (fk l (m.map fun x=>-1*x)) (fun k=>by rw[cG,aS,h];omega);rw[dM,bs]at this;omega
def kL(t:Int)(l:ae):ev t (tz l)=ev t l:=eB (fun k=>bN l k) t
def Ld(n:Nat)(c:Int)(f:Int→Int):Prop:=∃g,Pl n g∧∀t,f t=c*t^n+g t
def Ld.pl{n:Nat}{c:Int}{f:Int→Int}(h:Ld n c f):Pl (n+1) f:=by obtain⟨g,a,b⟩:=h;exact(((Pl.mW n).aO c).add (a.mono o)).congr b
def Ld.po{n:Nat}{c:Int}{f:Int→Int}(h:Ld n c f):Po f:=h.pl.po
def Ld.congr{n:Nat}{c:Int}{f g:Int→Int}(h:Ld n c f)(e:∀t,g t=f t):Ld n c g:=by obtain⟨r,a,h2⟩:=h;exact⟨r,a,fun t=>NN⟩
def Ld.eM{l:ae}{n:Nat}(h:l.length≤n+1):Ld n (l.getD n 0) (fun t=>ev t l):=by refine⟨fun t=>ev t (l.take n),⟨l.take n,mI,fun _=>rfl⟩,fun t=>?_⟩;have a:=dC t l n;rw[gT h]at a;show ev t l=l.getD n 0*t^n+ev t (l.take n);omega
def Pl.ld{n:Nat}{f:Int→Int}(h:Pl (n+1) f):∃c,Ld n c f:=by obtain⟨l,a,b⟩:=h;exact⟨_,(Ld.eM a).congr b⟩
def Ld.list{n:Nat}{c:Int}{f:Int→Int}(h:Ld n c f):∃l:ae,l.length=n+1∧l.getD n 0=c∧∀t,f t=ev t l:=by obtain⟨g,⟨l,e,b⟩,d⟩:=h;refine⟨l++List.replicate (n-l.length) 0++[c],aZ,?_,fun t=>?_⟩;(have a:(l++List.replicate (n-l.length) (0:Int)).length=n:=by simp;omega);rw[List.getD,iN (show(l++List.replicate (n-l.length) (0:Int)).length≤n by omega),a];simp;rw[d,b,ur,ur,nX];have a:(l++List.replicate (n-l.length) (0:Int)).length=n:=aZ;rw[a];simp only[ev,jw,nY];rw[bm c];omega
def Ld.uniq{n:Nat}{c d:Int}{f g:Int→Int}(h:Ld n c f)(a:Ld n d g)(e:∀t,f t=g t):c=d:=by obtain⟨l,_,b,i⟩:=h.list;obtain⟨m,_,j,k⟩:=a.list;rw[←b,←j];exact mG 0 (fun t _=>by rw[←i,←k,e]) n
def Ld.acD{n:Nat}{f:Int→Int}(h:Pl n f):Ld n 0 f:=⟨f,h,fun t=>o⟩
def Ld.IQ{n:Nat}{f:Int→Int}(h:Ld n 0 f):Pl n f:=by obtain⟨g,a,h2⟩:=h;exact a.congr fun t=>YR
def Ld.aO{n:Nat}{d:Int}{f:Int→Int}(c:Int)(b:Ld n d f):Ld n (c*d) (fun t=>c*f t):=by obtain⟨a,e,g⟩:=b;exact⟨_,e.aO c,fun t=>by simp only[g,dE,bB]⟩
def Ld.sub{n:Nat}{c d:Int}{f g:Int→Int}(e:Ld n c f)(h:Ld n d g):Ld n (c-d) (fun t=>f t-g t):=by obtain⟨a,i,j⟩:=e;obtain⟨b,k,l⟩:=h;exact⟨_,i.sub k,fun t=>by simp only[j,l,im];omega⟩
def Ld.mul{n m:Nat}{c d:Int}{f g:Int→Int}(h:Ld n c f)(e:Ld m d g):Ld (n+m) (c*d) (fun t=>f t*g t):=by
 have i:=e.pl;obtain⟨a,j,k⟩:=h;obtain⟨b,l,p⟩:=e;refine⟨fun t=>c*(t^n*b t)+a t*g t,?_,fun t=>?_⟩;exact((l.shift n).aO c).add (j.mul i);show f t*g t=c*d*t^(n+m)+(c*(t^n*b t)+a t*g t);have:c*t^n*(d*t^m)=c*d*(t^n*t^m):=by rw[bB,gy (t^n),←bB]
 have q:c*t^n*g t=c*d*(t^n*t^m)+c*(t^n*b t):=by rw[p,dE,this,bB c (t^n) (b t)]
 rw[k,c_,q,iF];omega
def Ld.const(c:Int):Ld 0 c (fun _=>c):=⟨fun _=>0,Pl.zero 0,fun t=>Y⟩
def Ld.one_pow{n:Nat}:Ld n 1 (fun t=>t^n):=⟨fun _=>0,Pl.zero n,fun t=>Y⟩
def Pl.avn{f:Int→Int}(h:Pl 1 f):∃c,∀t,f t=c:=by obtain⟨c,g,a,b⟩:=Pl.ld (n:=0) h;obtain⟨l,e,d⟩:=a;obtain rfl:l=[]:=ij.1 o;exact⟨c,fun t=>by rw[b,d];simp[Go.Proofs.YtldcjkhbiffdoaaGreatDoor.ev]⟩
def Pl.D8{f:Int→Int}(h:Pl 0 f)(t:Int):f t=0:=by obtain⟨l,b,a⟩:=h;obtain rfl:l=[]:=ij.1 o;rw[a];rfl
def Pl.je{n:Nat}{c:Int}{f:Int→Int}(hc:c≠0)(e:Po f)(h:Pl n (fun t=>c*f t)):Pl n f:=by obtain⟨N,l,_,a⟩:=e;obtain⟨m,i,g⟩:=h;refine⟨l.take n,mI,fun t=>?_⟩;rw[a];refine eB (fun k=>?_) t;rcases aX k n with b|b;simp[List.getD,mP b];rw[au (show(l.take n).length≤k by rw[mN];omega)];have d:=mG (l:=l.map fun x=>c*x) (m:=m) 0 (fun t _=>by rw[bs,←a,←g]) k;rw[aS,au (show m.length≤k by omega)]at d;exact(Hi.1 d).resolve_left hc
def cq(m:Int):Prop:=(∀a b:Int,m∣a*b→m∣a∨m∣b)∧¬m∣1
def cq.mul{m a b:Int}(h:cq m)(c:¬m∣a)(d:¬m∣b):¬m∣a*b:=fun e=>(h.1 a b e).elim c d
def cq.pow{m a:Int}(h:cq m)(b:¬m∣a):∀n:Nat,¬m∣a^n
|0=>by simpa using h.2
|n+1=>by rw[bW];exact h.mul (h.pow b n) b
def cq.zero:cq 0:=⟨fun a b h=>by have:=vS.1 h;rcases Hi.1 this with h|h;left;rw[h];exact nQ _;right;rw[h];exact nQ _,fun h=>ahN⟩
def Zm(m:Int)(f:Int→Int):Prop:=∃g,Po g∧∀t,f t=m*g t
def Zm.po{m:Int}{f:Int→Int}(h:Zm m f):Po f:=by obtain⟨g,a,b⟩:=h;exact(a.aO m).congr b
def Zm.congr{m:Int}{f g:Int→Int}(h:Zm m f)(e:∀t,g t=f t):Zm m g:=by obtain⟨a,b,h2⟩:=h;exact⟨a,b,fun t=>NN⟩
def Zm.aq(m:Int){f:Int→Int}(h:∀t,f t=0):Zm m f:=⟨fun _=>0,Po.zero,fun t=>GF⟩
def Zm.add{m:Int}{f g:Int→Int}(c:Zm m f)(d:Zm m g):Zm m (fun t=>f t+g t):=by obtain⟨a,e,h⟩:=c;obtain⟨b,i,j⟩:=d;exact⟨_,e.add i,fun t=>by simp only[h,j,dE]⟩
def Zm.mul{m:Int}{f g:Int→Int}(b:Po g)(c:Zm m f):Zm m (fun t=>g t*f t):=by obtain⟨a,d,e⟩:=c;exact⟨_,b.mul d,fun t=>by simp only[e];rw[gy]⟩
def Zm.aO{m:Int}{f:Int→Int}(c:Int)(a:Zm m f):Zm m (fun t=>c*f t):=a.mul (Po.const c)
def Zm.neg{m:Int}{f:Int→Int}(a:Zm m f):Zm m (fun t=>-f t):=(a.aO (-1)).congr fun t=>o
def Zm.sub{m:Int}{f g:Int→Int}(a:Zm m f)(b:Zm m g):Zm m (fun t=>f t-g t):=(a.add b.neg).congr fun t=>o
def Zm.of_dvd{m c:Int}{f:Int→Int}(a:Po f)(h:m∣c):Zm m (fun t=>c*f t):=by obtain⟨d,rfl⟩:=h;exact⟨_,a.aO d,fun t=>by simp only[bB]⟩
def Zm.Bj{p:Int}{k:Nat}{f:Int→Int}(c:0<k)(h:Zm (p^k) f):Zm p f:=by obtain⟨g,a,b⟩:=h;obtain⟨j,rfl⟩:∃j,k=j+1:=⟨k-1,o⟩;exact⟨_,a.aO (p^j),fun t=>by rw[b,bW,bm (p^j),bB]⟩
def Zm.lead{m:Int}{f:Int→Int}{n:Nat}{c:Int}(h:Zm m f)(a:Ld n c f):m∣c:=by obtain⟨g,i,b⟩:=h;by_cases hm:m=0;subst hm;have d:Ld n 0 f:=⟨fun _=>0,Pl.zero n,fun t=>by rw[b];simp⟩;rw[a.uniq d fun _=>rfl];exact nQ _;have d:Pl (n+1) g:=Pl.je hm i (a.pl.congr fun t=>(b t).symm);obtain⟨e,j⟩:=d.ld;rw[a.uniq (j.aO m) b];exact⟨e,rfl⟩
def Zm.const{m c:Int}(h:Zm m (fun _=>c)):m∣c:=h.lead (Ld.const c)
def Zm.amP{m:Int}(hm:cq m):∀(N n k:Nat)(f g:Int→Int),n+k≤N→Pl n f→Pl k g→Zm m (fun t=>f t*g t)→Zm m f∨Zm m g:=by
 intro N;induction N with
 |zero=>intro n k f g v b e _;left;exact Zm.aq m fun t=>Pl.D8 (b.mono o) t
 |succ N s=>
  intro n k f g v b e j;cases n with
  |zero=>left;exact Zm.aq m fun t=>Pl.D8 b t
  |succ n=>
   cases k with
   |zero=>right;exact Zm.aq m fun t=>Pl.D8 e t
   |succ k=>obtain⟨c,hc⟩:=b.ld;obtain⟨d,u⟩:=e.ld;have w:=j.lead (hc.mul u);rcases hm.1 c d w with l|l;obtain⟨p,q,h⟩:=hc;have i:Zm m (fun t=>c*t^n):=Zm.of_dvd (Po.mW n) l;(have r:Zm m (fun t=>p t*g t):=(j.sub (i.mul e.po)).congr fun t=>by show p t*g t=f t*g t-g t*(c*t^n);rw[h,c_,bm (g t)];omega);rcases s n (k+1) p g o q e r with a|a;left;exact(i.add a).congr h;right;exact a;obtain⟨g',q,h⟩:=u;have i:Zm m (fun t=>d*t^k):=Zm.of_dvd (Po.mW k) l;(have r:Zm m (fun t=>f t*g' t):=(j.sub (i.mul b.po)).congr fun t=>by show f t*g' t=f t*g t-f t*(d*t^k);rw[h,dE];omega);rcases s (n+1) k f g' o b q r with a|a;left;exact a;right;exact(i.add a).congr h
def Zm.or{m:Int}(hm:cq m){f g:Int→Int}(a:Po f)(b:Po g)(h:Zm m (fun t=>f t*g t)):Zm m f∨Zm m g:=by obtain⟨n,a⟩:=a;obtain⟨k,b⟩:=b;exact Zm.amP hm (n+k) n k f g (Z _) a b h
def Zm.je{m:Int}(hm:cq m){c:Int}(hc:¬m∣c){f:Int→Int}(a:Po f)(h:Zm m (fun t=>c*f t)):Zm m f:=(Zm.or hm (Po.const c) a h).resolve_left fun b=>hc b.const
def Dm(m:Int)(k:Nat)(f:Int→Int):Prop:=∃d f0,¬m∣d∧Ld k d f0∧Zm m (fun t=>f t-f0 t)
def Dm.po{m:Int}{k:Nat}{f:Int→Int}(h:Dm m k f):Po f:=by obtain⟨d,f0,_,a,b⟩:=h;exact(a.po.add b.po).congr fun t=>o
def Dm.not{m:Int}{k:Nat}{f:Int→Int}(h:Dm m k f):¬Zm m f:=by obtain⟨d,f0,a,b,c⟩:=h;intro e;exact a (((e.sub c).congr (g:=f0) fun t=>o).lead b)
def Dm.ig{m:Int}{k:Nat}{d:Int}{f:Int→Int}(h:Ld k d f)(a:¬m∣d):Dm m k f:=⟨d,f,a,h,Zm.aq m fun t=>o⟩
def Dm.alike{m:Int}{k:Nat}{f g:Int→Int}(h:Dm m k f)(a:Zm m (fun t=>g t-f t)):Dm m k g:=by obtain⟨d,f0,b,c,e⟩:=h;exact⟨d,f0,b,c,(a.add e).congr fun t=>o⟩
def Dm.mul{m:Int}(hm:cq m){k l:Nat}{f g:Int→Int}(h:Dm m k f)(b:Dm m l g):Dm m (k+l) (fun t=>f t*g t):=by have a:=b.po;obtain⟨d,f0,i,c,j⟩:=h;obtain⟨e,g0,n,p,q⟩:=b;refine⟨_,_,hm.mul i n,c.mul p,((j.mul a).add (q.mul c.po)).congr fun t=>?_⟩;show f t*g t-f0 t*g0 t=g t*(f t-f0 t)+f0 t*(g t-g0 t);simp only[rZ];omega
def Dm.aO{m:Int}(hm:cq m){k:Nat}{c:Int}(hc:¬m∣c){f:Int→Int}(a:Dm m k f):Dm m k (fun t=>c*f t):=by have:=(Dm.ig (Ld.const c) hc).mul hm a;rwa[pH]at this
def Zm.jS{m:Int}:∀ {n:Nat} {f:Int→Int},Pl n f→Zm m f∨∃k,k<n∧Dm m k f
|0,f,h=>Or.inl (Zm.aq m fun t=>h.D8 t)
|n+1,f,h=>by obtain⟨c,hc⟩:=h.ld;by_cases a:m∣c;obtain⟨g,e,h2⟩:=hc;have b:Zm m (fun t=>c*t^n):=Zm.of_dvd (Po.mW n) a;rcases Zm.jS (m:=m) e with d|⟨k,d,i⟩;left;exact(b.add d).congr h2;right;exact⟨k,o,i.alike (b.congr fun t=>YR)⟩;exact Or.inr ⟨n,o,Dm.ig hc a⟩
def Dm.le{m:Int}{k n:Nat}{f g:Int→Int}(h:Dm m k f)(c:Pl n g)(e:Zm m (fun t=>f t-g t)):k<n:=by obtain⟨d,f0,i,j,l⟩:=h;rcases aX k n with a|a;exact a;exfalso;have p:=(e.sub l).congr (g:=fun t=>f0 t-g t) fun t=>o;have b:=p.lead (j.sub (Ld.acD (c.mono a)));rw[pq]at b;exact i b
def Dm.uniq{m:Int}{k l:Nat}{f:Int→Int}(h:Dm m k f)(a:Dm m l f):k=l:=by(have aux:∀ {k l:Nat},Dm m k f→Dm m l f→k≤l:=by intro k l h a;obtain⟨d,f0,e,b,c⟩:=a;have:=h.le b.pl c;omega);have:=aux h a;have:=aux a h;omega
def afb{k:Nat}{d:Int}{b:Int→Int}(f:Ld k d b):∀ {n:Nat} {a:Int→Int},Pl n a→∃(j:Nat)(q r:Int→Int),Po q∧Pl k r∧∀t,d^j*a t=q t*b t+r t
|0,a,e=>⟨0,fun _=>0,fun _=>0,Po.zero,Pl.zero k,fun t=>by rw[e.D8];simp⟩
|n+1,a,e=>by rcases aX n k with h|h;exact⟨0,fun _=>0,a,Po.zero,e.mono o,fun t=>Y⟩;obtain⟨c,hc⟩:=e.ld;(have g:Ld n (d*c-c*d) (fun t=>d*a t-t^(n-k)*(c*b t)):=by refine(hc.aO d).sub ?_;have:=(Ld.one_pow (n:=n-k)).mul (f.aO c);rw[show n-k+k=n by omega,lC]at this;exact this);rw[show d*c-c*d=0 by rw[bm];omega]at g;obtain⟨j,q,r,i,l,m⟩:=afb f g.IQ;refine⟨j+1,fun t=>q t+d^j*(c*t^(n-k)),r,i.add (((Po.mW _).aO c).aO _),l,fun t=>?_⟩;have p:=m t;rw[bW];show d^j*d*a t=(q t+d^j*(c*t^(n-k)))*b t+r t;revert p;simp only[rZ];omega
def L9{m:Int}(hm:cq m):∀(n:Nat) {a b:Int→Int},Po a→Pl n b→¬(Zm m a∧Zm m b)→∃(u v d:Int→Int)(c:Int)(l p:Int→Int),Po u∧Po v∧Po d∧Po l∧Po p∧¬Zm m d∧¬m∣c∧Zm m (fun t=>u t*a t+v t*b t-d t)∧Zm m (fun t=>c*a t-d t*l t)∧Zm m (fun t=>c*b t-d t*p t):=by
 intro n;induction n using Nat.strongRecOn with
 |ind n B=>intro a b s C D;rcases Zm.jS (m:=m) C with w|⟨k,E,δ,b0,x,f,y⟩;refine⟨fun _=>1,fun _=>0,a,1,fun _=>1,fun _=>0,Po.const 1,Po.zero,s,Po.const 1,Po.zero,fun h=>D ⟨h,w⟩,hm.2,Zm.aq m fun t=>?_,Zm.aq m fun t=>?_,w.congr fun t=>?_⟩;simp;simp;simp;obtain⟨N,F⟩:=s;obtain⟨j,q,r,e,G,A⟩:=afb f F;have g:¬Zm m b0:=fun h=>x (h.lead f);obtain⟨u,v,d,c,a1,b1,g1,g2,g3,g4,g5,g6,g7,g8,g9,g10⟩:=B k E f.po G (fun h=>g h.1);have H:=hm.pow x j;refine⟨fun t=>δ^j*v t,fun t=>u t-v t*q t,d,c*δ^j,fun t=>q t*a1 t+b1 t,fun t=>δ^j*a1 t,g2.aO _,g1.sub (g2.mul e),g3,(e.mul g4).add g5,g4.aO _,g6,hm.mul g7 H,?_,?_,?_⟩;refine(g8.add (y.mul (g1.sub (g2.mul e)))).congr fun t=>?_;have i:=jZ (fun z=>v t*z) (A t);show δ^j*v t*a t+(u t-v t*q t)*b t-d t=u t*b0 t+v t*r t-d t+(u t-v t*q t)*(b t-b0 t);revert i;simp only[rZ];omega;refine((g9.mul e).add g10).congr fun t=>?_;have i:=jZ (fun z=>c*z) (A t);show c*δ^j*a t-d t*(q t*a1 t+b1 t)=q t*(c*b0 t-d t*a1 t)+(c*r t-d t*b1 t);revert i;simp only[rZ];omega;refine((g9.aO (δ^j)).add (y.aO (c*δ^j))).congr fun t=>?_;show c*δ^j*b t-d t*(δ^j*a1 t)=δ^j*(c*b0 t-d t*a1 t)+c*δ^j*(b t-b0 t);simp only[rZ];omega
def ku(m:Int)(a b:Int→Int):Prop:=∃(u v:Int→Int)(c:Int),Po u∧Po v∧¬m∣c∧Zm m (fun t=>u t*a t+v t*b t-c)
def Dv(m:Int)(a b:Int→Int):Prop:=∃(c:Int)(s:Int→Int),¬m∣c∧Po s∧Zm m (fun t=>c*b t-a t*s t)
def Dv.mul{m:Int}{a b e:Int→Int}(he:Po e)(h:Dv m a b):Dv m a (fun t=>e t*b t):=by obtain⟨c,s,d,f,g⟩:=h;refine⟨c,fun t=>e t*s t,d,he.mul f,(g.mul he).congr fun t=>?_⟩;show c*(e t*b t)-a t*(e t*s t)=e t*(c*b t-a t*s t);simp only[rZ]
def Dv.add{m:Int}(hm:cq m){a b e:Int→Int}(h:Dv m a b)(d:Dv m a e):Dv m a (fun t=>b t+e t):=by obtain⟨c,s,f,g,i⟩:=h;obtain⟨c',s',j,k,l⟩:=d;refine⟨c*c',fun t=>c'*s t+c*s' t,hm.mul f j,(g.aO c').add (k.aO c),((i.aO c').add (l.aO c)).congr fun t=>?_⟩;show c*c'*(b t+e t)-a t*(c'*s t+c*s' t)=c'*(c*b t-a t*s t)+c*(c'*e t-a t*s' t);simp only[rZ];omega
def Dv.mR{m:Int}(hm:cq m){a b:Int→Int}(h:Zm m b):Dv m a b:=⟨1,fun _=>0,hm.2,Po.zero,h.congr fun t=>Y⟩
def Dv.alike{m:Int}{a b e:Int→Int}(h:Dv m a b)(d:Zm m (fun t=>e t-b t)):Dv m a e:=by obtain⟨c,s,f,g,i⟩:=h;refine⟨c,s,f,g,(i.add (d.aO c)).congr fun t=>?_⟩;show c*e t-a t*s t=c*b t-a t*s t+c*(e t-b t);simp only[rZ];omega
def Dv.BB{m:Int}(hm:cq m){a b:Int→Int}{k:Int}(d:¬m∣k)(h:Dv m a (fun t=>k*b t)):Dv m a b:=by obtain⟨c,s,e,f,g⟩:=h;exact⟨c*k,s,hm.mul e d,f,g.congr fun t=>by rw[bB]⟩
def Dv.refl{m:Int}(hm:cq m)(a:Int→Int):Dv m a a:=⟨1,fun _=>1,hm.2,Po.const 1,Zm.aq m fun t=>Y⟩
def Dv.trans{m:Int}(hm:cq m){a b e:Int→Int}(h:Dv m a b)(f:Dv m b e):Dv m a e:=by obtain⟨c,s,g,i,j⟩:=h;obtain⟨c',s',k,d,l⟩:=f;refine⟨c*c',fun t=>s t*s' t,hm.mul g k,i.mul d,((l.aO c).add (j.mul d)).congr fun t=>?_⟩;show c*c'*e t-a t*(s t*s' t)=c*(c'*e t-b t*s' t)+s' t*(c*b t-a t*s t);simp only[rZ];omega
def ku.dv{m:Int}(hm:cq m){a b e:Int→Int}(he:Po e)(h:ku m a b)(f:Dv m a (fun t=>b t*e t)):Dv m a e:=by obtain⟨u,v,c,g,d,i,j⟩:=h;obtain⟨c',s,k,l,n⟩:=f;refine⟨c'*c,fun t=>c'*u t*e t+v t*s t,hm.mul k i,(((g.aO c').mul he).add (d.mul l)),(((n.mul d).sub (j.mul (he.aO c'))).congr fun t=>?_)⟩;show c'*c*e t-a t*(c'*u t*e t+v t*s t)=v t*(c'*(b t*e t)-a t*s t)-c'*e t*(u t*a t+v t*b t-c);simp only[rZ];omega
def qU(m:Int)(r:Int→Int):Prop:=Po r∧¬Zm m r∧¬Dm m 0 r∧∀(a b:Int→Int)(c:Int),Po a→Po b→¬m∣c→Zm m (fun t=>c*r t-a t*b t)→Dm m 0 a∨Dm m 0 b
def Dm.zero{m:Int}{f:Int→Int}(h:Dm m 0 f):∃c,¬m∣c∧Zm m (fun t=>f t-c):=by obtain⟨d,f0,a,⟨g,b,e⟩,i⟩:=h;refine⟨d,a,i.congr fun t=>?_⟩;rw[e,b.D8];simp
def qU.TI{m:Int}(hm:cq m){r a:Int→Int}(i:qU m r)(j:Po a):ku m r a∨Dv m r a:=by obtain⟨l,p,w,q⟩:=i;obtain⟨n,s⟩:=j;obtain⟨u,v,d,c,e,b,g1,g2,g3,g4,g5,g6,g7,g8,g9,g10⟩:=L9 hm n l s (fun h=>p h.1);rcases q d e c g3 g4 g7 g9 with h|h;obtain⟨k,f,g⟩:=h.zero;left;exact⟨u,v,k,g1,g2,f,(g8.add g).congr fun t=>o⟩;obtain⟨k,f,g⟩:=h.zero;right;refine⟨k*c,fun t=>c*b t,hm.mul f g7,g5.aO c,?_⟩;refine(((g10.aO k).sub (g9.mul g5)).sub (g.mul (g3.mul g5))).congr fun t=>?_;show k*c*a t-r t*(c*b t)=k*(c*a t-d t*b t)-b t*(c*r t-d t*e t)-d t*b t*(e t-k);simp only[rZ];omega
def qU.zG{m:Int}(hm:cq m){r a b:Int→Int}(d:qU m r)(e:Po a)(f:Po b)(h:Dv m r (fun t=>a t*b t)):Dv m r a∨Dv m r b:=by rcases d.TI hm e with c|c;right;exact c.dv hm f h;left;exact c
def CJ(n:Nat)(m:2≤n):∃p:Nat,2≤p∧p∣n∧cq (p:Int):=by
 have aux:∀k,∀p,p≤k→2≤p→p∣n→∃p:Nat,2≤p∧p∣n∧∀q,2≤q→q∣n→p≤q:=by
  intro k;induction k with
  |zero=>intro p g e;omega
  |succ k r=>intro p g e i;by_cases h:∃q,2≤q∧q∣n∧q<p;obtain⟨q,d,f,c⟩:=h;exact r q o d f;refine⟨p,e,i,fun q d f=>?_⟩;rcases aX q p with c|c;exact absurd ⟨q,d,f,c⟩ h;exact c
 obtain⟨p,g,e,i⟩:=aux n n (Z _) m (Nat.dvd_refl _);refine⟨p,g,e,fun a b s=>?_,fun h=>?_⟩;have d:Nat.gcd p a.natAbs∣p:=Nat.gcd_dvd_left _ _;have u:0<Nat.gcd p a.natAbs:=Nat.gcd_pos_of_pos_left _ o;have f:p∣a.natAbs*b.natAbs:=by rw[←eX];exact BX.1 s
 rcases(show Nat.gcd p a.natAbs=1∨2≤Nat.gcd p a.natAbs by omega)with c|c;right;have j:Nat.Coprime p a.natAbs:=c;exact BX.2 (j.dvd_of_dvd_mul_left f);left;have j:=i _ c (Nat.dvd_trans d e);have t:Nat.gcd p a.natAbs=p:=Nat.le_antisymm (te o d) j;have l:Nat.gcd p a.natAbs∣a.natAbs:=Nat.gcd_dvd_right _ _;rw[t]at l;exact BX.2 l;have:=BX.1 h;have:=te J this;simp at this;omega
def aa0{p:Nat}(m:0<p)(g:cq (p:Int)):∀r:Nat,0<r→r<p→∃k:Int,(p:Int)∣r*k-1:=by
 intro r;induction r using Nat.strongRecOn with
 |ind r i=>intro b n;by_cases j:r=1;exact⟨1,by subst j;exact⟨0,Y⟩⟩;have l:p%r<r:=Nat.mod_lt _ b;have a:=Nat.div_add_mod p r;(have q:p%r≠0:=by intro h;rw[h,LX]at a;(have d:(p:Int)∣(r:Int)*((p/r:Nat):Int):=by rw[←kI,a];exact nQ _);(have e:0<p/r:=by rcases j5 (p/r)with h|h;rw[h]at a;omega;exact h);have f:p/r<p:=Nat.div_lt_self o o;rcases g.1 _ _ d with h|h;have:=te b (zM.1 h);omega;have:=te e (zM.1 h);omega);obtain⟨k,c,hc⟩:=i (p%r) l o o;refine⟨-((p/r:Nat):Int)*k,c-k,?_⟩;(have d:(p:Int)=r*((p/r:Nat):Int)+((p%r:Nat):Int):=by rw[←kI,←MD,a]);(have e:((p%r:Nat):Int)*k=p*k-r*((p/r:Nat):Int)*k:=by rw[←im];congr 1;omega);(have f:(r:Int)*(-((p/r:Nat):Int)*k)=-(r*((p/r:Nat):Int)*k):=by rw[jk,kT,bB]);rw[f,ek];omega
def cq.inv{p:Nat}(b:0<p)(d:cq (p:Int)){k:Int}(e:¬(p:Int)∣k):∃a:Int,(p:Int)∣k*a-1:=by have i:0≤k%p:=gu _ o;have j:k%p<p:=ik _ o;have l:k%p≠0:=fun h=>e (ahh h);obtain⟨a,c,hc⟩:=aa0 b d (k%p).toNat o o;rw[show(((k%p).toNat:Nat):Int)=k%p by omega]at hc;refine⟨a,c+(k/p)*a,?_⟩;have f:=sS k p;(have g:k*a=(p*(k/p))*a+k%p*a:=by rw[←c_,f]);rw[dE,←bB,g];omega
def D9(f:Int→Int):Prop:=Po f∧∀p:Nat,2≤p→cq (p:Int)→¬Zm p f
def D9.mul{f g:Int→Int}(a:D9 f)(b:D9 g):D9 (fun t=>f t*g t):=⟨a.1.mul b.1,fun p d c e=>(Zm.or c a.1 b.1 e).elim (a.2 p d c) (b.2 p d c)⟩
def D9.congr{f g:Int→Int}(h:D9 f)(e:∀t,g t=f t):D9 g:=⟨h.1.congr e,fun p a b c=>h.2 p a b (c.congr fun t=>(e t).symm)⟩
def D9.left{f g:Int→Int}(a:Po f)(b:Po g)(h:D9 (fun t=>f t*g t)):D9 f:=⟨a,fun p c d e=>h.2 p c d ((e.mul b).congr fun _=>bm _ _)⟩
def EO{c:Int}(a:c≠0)(b:c≠1)(d:c≠-1):2≤c.natAbs:=o
def EK{c:Int}(h:2≤c.natAbs):∃(p:Nat)(d:Int),2≤p∧cq (p:Int)∧c=p*d∧d.natAbs<c.natAbs∧d≠0:=by obtain⟨p,b,e,f⟩:=CJ c.natAbs h;obtain⟨d,a⟩:=BX.2 e;(have g:d≠0:=by intro h;subst h;simp at a;omega);refine⟨p,d,b,f,a,?_,g⟩;rw[a,eX];have:0<d.natAbs:=o;have i:((p:Nat):Int).natAbs=p:=mv p;rw[i];have j:2*d.natAbs≤p*d.natAbs:=kh _ b;omega
def D9.dvd{a:Int→Int}(f:D9 a):∀(n:Nat) {c:Int} {b s:Int→Int},c.natAbs≤n→c≠0→Po b→Po s→(∀t,c*b t=a t*s t)→∃s',Po s'∧(∀t,b t=a t*s' t)∧∀t,s t=c*s' t:=by
 intro n;induction n with
 |zero=>intro c b s m g;omega
 |succ n q=>intro c b s m g i e h;by_cases j:c=1;subst j;exact⟨s,e,fun t=>by rw[←h,lC],fun t=>o⟩;by_cases k:c=-1;subst k;exact⟨_,e.neg,fun t=>by rw[kT,←h];omega,fun t=>o⟩;obtain⟨p,d,g1,g2,g3,g4,g5⟩:=EK (EO g j k);have r:Zm p (fun t=>a t*s t):=⟨_,i.aO d,fun t=>by show a t*s t=_;rw[←h,g3,bB]⟩;obtain⟨s1,u,l⟩:=(Zm.or g2 f.1 e r).resolve_left (f.2 p g1 g2);have v:(p:Int)≠0:=o;obtain⟨s',w,x,y⟩:=q (c:=d) (b:=b) (s:=s1) o g5 i u (fun t=>by have:=h t;rw[l,g3,bB,gy (a t)]at this;exact zo v this);exact⟨s',w,x,fun t=>by rw[l,y,g3,bB]⟩
def D9.Wc{a b:Int→Int}(d:D9 a)(e:Po b)(h:Dv 0 a b):∃s,Po s∧∀t,b t=a t*s t:=by obtain⟨c,s,f,i,g,_,h4⟩:=h;have hc:c≠0:=fun h=>f Tc;obtain⟨s',h5,j,_⟩:=d.dvd _ (Z _) hc e i (fun t=>akv);exact⟨s',h5,j⟩
def Dv.of_eq{a b s:Int→Int}(m:Int)(hm:cq m)(c:Po s)(h:∀t,b t=a t*s t):Dv m a b:=⟨1,s,hm.2,c,Zm.aq m fun t=>GF⟩
def Iz(r:Int→Int):Prop:=Po r∧¬Zm 0 r∧¬Dm 0 0 r∧∀a b:Int→Int,Po a→Po b→(∀t,r t=a t*b t)→Dm 0 0 a∨Dm 0 0 b
def Iz.Nv{r:Int→Int}(h:Iz r):qU 0 r:=by
 obtain⟨s,u,v,w⟩:=h;refine⟨s,u,v,?_⟩;have aux:∀(n:Nat)(c:Int)(a b:Int→Int),c.natAbs≤n→c≠0→Po a→Po b→(∀t,c*r t=a t*b t)→Dm 0 0 a∨Dm 0 0 b:=by
  intro n;induction n with
  |zero=>intro c a b u v;omega
  |succ n x=>intro c a b A hc i j h;by_cases h4:c=1;(exact w a b i j fun t=>by have:=h t;rw[h4]at this;omega);by_cases h5:c=-1;(have e:=w _ b i.neg j fun t=>by have:=h t;rw[h5]at this;rw[jk];omega);rcases e with e|e;left;have:=Dm.aO cq.zero (c:=-1) (fun h=>ahN) e;obtain⟨d,f0,g1,g2,g3⟩:=this;exact⟨d,f0,g1,g2,g3.congr fun t=>by show a t-f0 t=-1*-a t-f0 t;omega⟩;right;exact e;obtain⟨p,d,g1,g2,g3,g4,g5⟩:=EK (EO hc h4 h5);have m:(p:Int)≠0:=o;have k:¬(0:Int)∣p:=fun h=>m (vS.1 h);have e:Zm p (fun t=>a t*b t):=⟨_,s.aO d,fun t=>by show a t*b t=_;rw[←h,g3,bB]⟩;rcases Zm.or g2 i j e with⟨y,q,l⟩|⟨z,q,l⟩;rcases x d y b o g5 q j (fun t=>by have:=h t;rw[l,g3,bB,bB]at this;exact zo m this)with f|f;left;obtain⟨d,f0,g1,g2,g3⟩:=Dm.aO cq.zero k f;exact⟨d,f0,g1,g2,g3.congr fun t=>by simp only[l]⟩;right;exact f;rcases x d a z o g5 i q (fun t=>by have:=h t;rw[l,g3,bB,gy (a t)]at this;exact zo m this)with f|f;left;exact f;right;obtain⟨d,f0,g1,g2,g3⟩:=Dm.aO cq.zero k f;exact⟨d,f0,g1,g2,g3.congr fun t=>by simp only[l]⟩
 intro a b c i j hc ⟨g,_,h4⟩;exact aux _ c a b (Z _) (fun h=>hc Tc) i j (fun t=>akv)
def Dr(f f':Int→Int):Prop:=Po f∧Po f'∧∃R:Int→Int→Int,∀t s,f (t+s)=f t+s*f' t+s*s*R t s
def Dr.congr{f g a g':Int→Int}(h:Dr f a)(e:∀t,g t=f t)(b:∀t,g' t=a t):Dr g g':=by obtain⟨c,d,R,i⟩:=h;exact⟨c.congr e,d.congr b,R,fun t s=>by rw[e,e,b,i]⟩
def Dr.const(c:Int):Dr (fun _=>c) (fun _=>0):=⟨Po.const c,Po.zero,fun _ _=>0,fun t s=>Y⟩
def Dr.x:Dr (fun t=>t) (fun _=>1):=⟨(Po.mW 1).congr fun t=>(lG t).symm,Po.const 1,fun _ _=>0,fun t s=>Y⟩
def Dr.add{f g a g':Int→Int}(h:Dr f a)(b:Dr g g'):Dr (fun t=>f t+g t) (fun t=>a t+g' t):=by obtain⟨c,d,R,e⟩:=h;obtain⟨i,j,S,k⟩:=b;exact⟨c.add i,d.add j,fun t s=>R t s+S t s,fun t s=>by simp only[e,k,dE];omega⟩
def Dr.mul{f g a g':Int→Int}(h:Dr f a)(d:Dr g g'):Dr (fun t=>f t*g t) (fun t=>a t*g t+f t*g' t):=by obtain⟨b,e,R,i⟩:=h;obtain⟨c,j,S,k⟩:=d;refine⟨b.mul c,(e.mul c).add (b.mul j),fun t s=>f t*S t s+R t s*g t+a t*g' t+s*a t*S t s+s*R t s*g' t+s*s*R t s*S t s,fun t s=>?_⟩;simp only[i,k];simp only[rZ];omega
def Dr.uniq{f a g':Int→Int}(h:Dr f a)(c:Dr f g')(t:Int):a t=g' t:=by obtain⟨k,l,R,d⟩:=h;obtain⟨m,n,S,e⟩:=c;(have g:∀s,s*(a t-g' t)=s*s*(S t s-R t s):=by intro s;have b:=d t s;have i:=e t s;rw[ek,ek];omega);have b:∀s,s≠0→s∣a t-g' t:=fun s j=>⟨S t s-R t s,by have:=g s;rw[bB]at this;exact zo j this⟩;have i:=Cs (b ((a t-g' t).natAbs+1) o) o;omega
def der:ae→ae
| []=> []
|_::l=>fk l (0::der l)
def Dr.ev:∀l:ae,Dr (fun t=>Go.Proofs.YtldcjkhbiffdoaaGreatDoor.ev t l) (fun t=>Go.Proofs.YtldcjkhbiffdoaaGreatDoor.ev t (der l))
| []=>(Dr.const 0).congr (fun t=>rfl) (fun t=>rfl)
|a::l=>((Dr.const a).add (Dr.x.mul (Dr.ev l))).congr (fun t=>rfl) (fun t=>by simp only[der,dM,Go.Proofs.YtldcjkhbiffdoaaGreatDoor.ev];omega)
def Po.dr{f:Int→Int}(h:Po f):∃a,Dr f a:=by obtain⟨n,l,_,b⟩:=h;exact⟨_,(Dr.ev l).congr b fun _=>rfl⟩
def xf:∀(l:ae)(k:Nat),(der l).getD k 0=(k+1)*l.getD (k+1) 0
| [],k=>by simp[der]
|a::l,0=>by show(fk l (0::der l)).getD 0 0=_;rw[cG];simp
|a::l,k+1=>by simp only[der,cG,sW,xf l k];rw[show((k+1:Nat):Int)+1=((k:Int)+1)+1 by omega,c_ ((k:Int)+1) 1];omega
def Dr.t_{l m:ae}(h:∀k:Nat,m.getD k 0=(k+1)*l.getD (k+1) 0):Dr (fun t=>Go.Proofs.YtldcjkhbiffdoaaGreatDoor.ev t l) (fun t=>Go.Proofs.YtldcjkhbiffdoaaGreatDoor.ev t m):=(Dr.ev l).congr (fun _=>rfl) fun t=>eB (fun k=>by rw[h,xf]) t
def Zm.dr{m:Int}{f a:Int→Int}(h:Zm m f)(c:Dr f a):Zm m a:=by obtain⟨g,d,e⟩:=h;obtain⟨g',b⟩:=d.dr;refine⟨g',b.2.1,fun t=>?_⟩;have i:=((Dr.const m).mul b).congr e (fun _=>rfl);rw[c.uniq i t];simp
def pS:List (Int→Int)→Nat→Int→Int
| [],_=>fun _=>1
|g::L,s=>fun t=>(if s%2=1 then g t else 1)*pS L (s/2) t
def pA:List (Int→Int)→Int→Int
| []=>fun _=>1
|g::L=>fun t=>g t*pA L t
def sB(g:Int→Int)(L:List (Int→Int))(s:Nat)(t:Int):pS (g::L) (1+2*s) t=g t*pS L s t:=by simp only[pS];rw[V o,show(1+2*s)/2=s by omega]
def tC(g:Int→Int)(L:List (Int→Int))(s:Nat)(t:Int):pS (g::L) (2*s) t=pS L s t:=by simp only[pS];rw[U o,show 2*s/2=s by omega,lC]
def two_pos(n:Nat):0<2^n:=du J
def An:∀(L:List (Int→Int)) (s:Nat),s<2^L.length→∀t,pS L s t*pS L (2^L.length-1-s) t=pA L t
| [],s,_,t=>by simp[pS,pA]
|g::L,s,h,t=>by have c:=two_pos L.length;rw[kO,e_]at h ⊢;have a:=An L (s/2) o t;rcases(show s%2=0∨s%2=1 by omega)with b|b;rw[show s=2*(s/2) by omega,tC,show 2^L.length*2-1-2*(s/2)=1+2*(2^L.length-1-s/2) by omega,sB];rw[gy,a];rfl;rw[show s=1+2*(s/2) by omega,sB,show 2^L.length*2-1-(1+2*(s/2))=2*(2^L.length-1-s/2) by omega,tC];rw[bB,a];rfl
def E6:∀(L:List (Int→Int)),(∀g,g∈L→Po g)→∀s,Po (pS L s)
| [],_,s=>Po.const 1
|g::L,h,s=>by have a:=E6 L (fun x b=>h x (eh _ b)) (s/2);have c:=h g (dh ..);rcases(show s%2=0∨s%2=1 by omega)with d|d;(exact a.congr fun t=>by rw[show s=2*(s/2) by omega,tC];congr 1;omega);exact(c.mul a).congr fun t=>by conv=>lhs;rw[show s=1+2*(s/2) by omega,sB]
def ke:∀(L:List (Int→Int)),(∀g,g∈L→Po g)→Po (pA L)
| [],_=>Po.const 1
|g::L,h=>(h g (dh ..)).mul (ke L fun x a=>h x (eh _ a))
def JX:∀(L:List (Int→Int)),(∀g,g∈L→∃d,Ld d 1 g)→∀s,∃d,Ld d 1 (pS L s)
| [],_,s=>⟨0,Ld.const 1⟩
|g::L,h,s=>by obtain⟨d,a⟩:=JX L (fun x b=>h x (eh _ b)) (s/2);obtain⟨e,c⟩:=h g (dh ..);rcases(show s%2=0∨s%2=1 by omega)with f|f;(·exact⟨d,a.congr fun t=>by conv=>lhs;rw[show s=2*(s/2) by omega,tC]⟩);·have:=c.mul a;rw[lC]at this;exact⟨e+d,this.congr fun t=>by conv=>lhs;rw[show s=1+2*(s/2) by omega,sB]⟩
def consts{p:Nat}(l:cq (p:Int)){c:Int}{g h:Int→Int}(hc:¬(p:Int)∣c)(q:Po g)(r:Po h)(s:Zm p (fun t=>g t*h t-c)):(∃k,¬(p:Int)∣k∧Zm p (fun t=>g t-k))∧∃k,¬(p:Int)∣k∧Zm p (fun t=>h t-k):=by have f:Dm p 0 (fun t=>g t*h t):=(Dm.ig (Ld.const c) hc).alike s;obtain⟨n,i⟩:=q;obtain⟨m,j⟩:=r;rcases Zm.jS (m:=p) i with d|⟨a,_,d⟩;exact absurd ((d.mul j.po).congr (g:=fun t=>g t*h t) fun t=>bm _ _) f.not;rcases Zm.jS (m:=p) j with e|⟨b,_,e⟩;exact absurd (e.mul i.po) f.not;have u:=(d.mul l e).uniq f;obtain rfl:a=0:=o;obtain rfl:b=0:=o;exact⟨d.zero,e.zero⟩
def acN{p:Nat}(C:0<p)(l:cq (p:Int)):∀(L:List (Int→Int)),(∀g,g∈L→qU p g)→∀(c:Int)(g h:Int→Int),¬(p:Int)∣c→Po g→Po h→Zm p (fun t=>g t*h t-c*pA L t)→∃s k a,s<2^L.length∧¬(p:Int)∣k∧¬(p:Int)∣a∧Zm p (fun t=>g t-k*pS L s t)∧Zm p (fun t=>h t-a*pS L (2^L.length-1-s) t)
| [],_,c,g,h,hc,f,d,i=>by obtain⟨⟨k,j,m⟩,⟨a,y,v⟩⟩:=consts l hc f d (i.congr fun t=>Fz);exact⟨0,k,a,Y,j,y,m.congr fun t=>by simp[pS],v.congr fun t=>by simp[pS]⟩
|r::L,D,c,g,h,hc,f,d,i=>by have w:=D r (dh ..);have E:∀g,g∈L→qU p g:=fun x z=>D x (eh _ z);have F:Po (pA L):=ke L fun x z=>(E x z).1;(have side:∀g h:Int→Int,Po g→Po h→Zm p (fun t=>g t*h t-c*pA (r::L) t)→Dv p r g→∃s k a,s<2^L.length∧¬(p:Int)∣k∧¬(p:Int)∣a∧Zm p (fun t=>g t-k*pS (r::L) (1+2*s) t)∧Zm p (fun t=>h t-a*pS (r::L) (2*(2^L.length-1-s)) t):=by intro g h f d i ⟨A,g1,j,m,y⟩;obtain⟨b,e,he⟩:=l.inv C j;(have v:Zm p (fun t=>g t-r t*(b*g1 t)):=by refine((y.aO b).sub (Zm.of_dvd f (c:=A*b-1) ⟨e,he⟩)).congr fun t=>?_;show g t-r t*(b*g1 t)=b*(A*g t-r t*g1 t)-(A*b-1)*g t;simp only[rZ];omega);(have G:Zm p (fun t=>r t*(b*g1 t*h t-c*pA L t)):=by refine(i.sub (v.mul d)).congr fun t=>?_;show r t*(b*g1 t*h t-c*pA L t)=g t*h t-c*(r t*pA L t)-h t*(g t-r t*(b*g1 t));simp only[rZ];omega);have H:=(Zm.or l w.1 (((m.aO b).mul d).sub (F.aO c)) G).resolve_left w.2.1;obtain⟨s,k,a,B,q2,n,q,u⟩:=acN C l L E c _ h hc (m.aO b) d H;refine⟨s,k,a,B,q2,n,?_,u.congr fun t=>by rw[tC]⟩;refine(v.add (q.mul w.1)).congr fun t=>?_;rw[sB];show g t-k*(r t*pS L s t)=g t-r t*(b*g1 t)+r t*(b*g1 t-k*pS L s t);simp only[rZ];omega);have m:=two_pos L.length;have I:Dv p r (fun t=>g t*h t):=⟨1,fun t=>c*pA L t,l.2,F.aO c,i.congr fun t=>by show 1*(g t*h t)-r t*(c*pA L t)=g t*h t-c*(r t*pA L t);simp only[rZ]⟩;rcases w.zG l f d I with j|j;obtain⟨s,k,a,B,q2,n,q,u⟩:=side g h f d i j;refine⟨1+2*s,k,a,?_,q2,n,q,?_⟩;rw[kO,e_];omega;rw[kO,e_,show 2^L.length*2-1-(1+2*s)=2*(2^L.length-1-s) by omega];exact u;obtain⟨s,k,a,B,q2,n,q,u⟩:=side h g d f (i.congr fun t=>by rw[bm (g t)]) j;refine⟨2*(2^L.length-1-s),a,k,?_,n,q2,u,?_⟩;rw[kO,e_];omega;rw[kO,e_,show 2^L.length*2-1-2*(2^L.length-1-s)=1+2*s by omega];exact q
def Sq(m:Int)(f:Int→Int):Prop:=∃f' u v e,Dr f f'∧Po u∧Po v∧¬m∣e∧Zm m (fun t=>u t*f t+v t*f' t-e)
def Sq.PG{p:Nat}{f g h:Int→Int}{c:Int}(n:Sq p f)(q:Po g)(i:Po h)(j:Zm p (fun t=>f t-c*(g t*h t))):ku p g h:=by obtain⟨b,u,v,e,r,k,d,s,w⟩:=n;obtain⟨g',l⟩:=q.dr;obtain⟨a,m⟩:=i.dr;have x:=j.dr ((r.add ((Dr.const (-c)).mul (l.mul m))).congr (fun t=>by rw[jk];omega) (g':=fun t=>b t-c*(g' t*h t+g t*a t)) (fun t=>by rw[jk];omega));refine⟨fun t=>c*(u t*h t+v t*a t),fun t=>c*(v t*g' t),e,((k.mul i).add (d.mul m.2.1)).aO c,(d.mul l.2.1).aO c,s,?_⟩;refine((w.sub (j.mul k)).sub (x.mul d)).congr fun t=>?_;show c*(u t*h t+v t*a t)*g t+c*(v t*g' t)*h t-e=u t*f t+v t*b t-e-u t*(f t-c*(g t*h t))-v t*(b t-c*(g' t*h t+g t*a t));simp only[rZ];omega
def qU.qS{p:Nat}(a:cq (p:Int)){r:Int→Int}(b:qU p r){e:Int}(he:¬(p:Int)∣e):¬Dv p r (fun _=>e):=by intro⟨k,s,d,f,g⟩;(have h:Zm p (fun t=>r t*s t-k*e):=g.neg.congr fun t=>by show r t*s t-k*e=-(k*e-r t*s t);omega);obtain⟨⟨c,i,j⟩,_⟩:=consts a (a.mul d he) b.1 f h;exact b.2.2.1 ((Dm.ig (Ld.const c) i).alike j)
def qU.Hr{p:Nat}(a:cq (p:Int)){r g h:Int→Int}(b:qU p r)(hc:ku p g h)(c:Dv p r g)(d:Dv p r h):False:=by obtain⟨u,v,e,f,i,j,k⟩:=hc;exact b.qS a j (((c.mul f).add a (d.mul i)).alike (k.neg.congr fun t=>o))
def EX{p k:Nat}(cZ:2≤p)(r:cq (p:Int)){A B g h:Int→Int}{a b:Nat}{c l f:Int}(s:Ld a 1 A)(F:Ld b 1 B)(G:ku p A B)(Pq:ku p B A)(hg:Ld a l g)(hh:Ld b f h)(n:c=l*f)(hc:¬(p:Int)∣c)(H:Zm ((p:Int)^k) (fun t=>g t*h t-c*(A t*B t)))(z:Zm p (fun t=>g t-l*A t))(C:Zm p (fun t=>h t-f*B t)):∀j,j+1≤k→Zm ((p:Int)^(j+1)) (fun t=>f*g t-c*A t)∧Zm ((p:Int)^(j+1)) (fun t=>l*h t-c*B t)
|0,_=>by rw[pH,lG];refine⟨(z.aO f).congr fun t=>?_,(C.aO l).congr fun t=>?_⟩;subst n;show f*g t-l*f*A t=f*(g t-l*A t);simp only[rZ];subst n;show l*h t-l*f*B t=l*(h t-f*B t);simp only[rZ]
|j+1,hj=>by
 obtain⟨⟨U,u,v⟩,⟨V,y,x⟩⟩:=EX cZ r s F G Pq hg hh n hc H z C j o;have O:(p:Int)≠0:=o;have P:(p:Int)^(j+1)≠0:=TA O;have Q:Pl a U:=by refine Pl.je P u (Pl.congr (Ld.IQ ?_) fun t=>(v t).symm);have:=(hg.aO f).sub (s.aO c);rwa[kJ,n,bm f,LM,←n]at this
 have R:Pl b V:=by refine Pl.je P y (Pl.congr (Ld.IQ ?_) fun t=>(x t).symm);have:=(hh.aO l).sub (F.aO c);rwa[kJ,n,LM,←n]at this
 obtain⟨i,hi⟩:∃i,k=i+(j+2):=⟨k-(j+2),o⟩;obtain⟨w,hw,cQ⟩:=H;have key:Zm p (fun t=>c*(A t*V t+B t*U t)):=by refine⟨fun t=>c*((p:Int)^i*w t)-(p:Int)^j*(U t*V t),((hw.aO _).aO c).sub ((u.mul y).aO _),fun t=>?_⟩;(have S:f*g t=c*A t+(p:Int)^(j+1)*U t:=by have h0:f*g t-c*A t=(p:Int)^(j+1)*U t:=v t;omega);(have T:l*h t=c*B t+(p:Int)^(j+1)*V t:=by have h0:l*h t-c*B t=(p:Int)^(j+1)*V t:=x t;omega);(have I:c*(g t*h t)=(c*A t+(p:Int)^(j+1)*U t)*(c*B t+(p:Int)^(j+1)*V t):=by rw[←S,←T,n];simp only[rZ]);(have K:g t*h t=c*(A t*B t)+(p:Int)^k*w t:=by have h0:g t*h t-c*(A t*B t)=(p:Int)^k*w t:=cQ t;omega);(have L:(p:Int)^k=(p:Int)^i*((p:Int)^(j+1)*p):=by rw[hi,iF,show j+2=(j+1)+1 from rfl,bW _ (j+1)]);have D:(p:Int)^(j+1)=(p:Int)^j*p:=bW ..;refine zo P ?_;rw[K,L]at I;show(p:Int)^(j+1)*(c*(A t*V t+B t*U t))=(p:Int)^(j+1)*(p*(c*((p:Int)^i*w t)-(p:Int)^j*(U t*V t)));(have M:(p:Int)^(j+1)*(p*((p:Int)^j*(U t*V t)))=(p:Int)^(j+1)*U t*((p:Int)^(j+1)*V t):=by(conv=>rhs;rw[D]);rw[←D];(conv=>lhs;rw[←bB (p:Int),bm (p:Int) ((p:Int)^j),←D]);simp only[rZ]);rw[ek,ek,M];revert I;generalize(p:Int)^(j+1)=q;generalize(p:Int)^i=e;simp only[rZ];omega
 have E:=Zm.je r hc ((s.po.mul y).add (F.po.mul u)) key;have fin:∀(a:Nat)(A B U V:Int→Int),Ld a 1 A→ku p A B→Pl a U→Po V→Zm p (fun t=>A t*V t+B t*U t)→Zm p U:=by intro a A B U V s G u y H;have S:Dv p A (fun t=>B t*U t):=⟨1,fun t=>-V t,r.2,y.neg,H.congr fun t=>by show 1*(B t*U t)-A t*-V t=A t*V t+B t*U t;rw[kT];omega⟩;obtain⟨k,q,T,I,K⟩:=G.dv r u.po S;rcases Zm.jS (m:=p) u with L|⟨d,L,D⟩;exact L;exfalso;have M:=D.aO r T;obtain⟨N,Sz⟩:=I;rcases Zm.jS (m:=p) Sz with W|⟨e,_,W⟩;exact M.not ((K.add (W.mul s.po)).congr fun t=>o);have h9:=((Dm.ig s r.2).mul r W).uniq (M.alike (K.neg.congr fun t=>o));omega
 obtain⟨U',X,hU2⟩:=fin a A B U V s G Q y E;obtain⟨V',hV1,hV2⟩:=fin b B A V U F Pq R u (E.congr fun t=>o);exact⟨⟨U',X,fun t=>by rw[v,hU2,bW _ (j+1),bB]⟩,⟨V',hV1,fun t=>by rw[x,hV2,bW _ (j+1),bB]⟩⟩
def afN{p k:Nat}(N:2≤p)(G:cq (p:Int))(O:1≤k){L:List (Int→Int)}(x:∀g,g∈L→qU p g)(m:∀g,g∈L→∃d,Ld d 1 g){f:Int→Int}(H:Sq p f){c:Int}(hc:¬(p:Int)∣c)(I:Zm ((p:Int)^k) (fun t=>f t-c*pA L t)){g h:Int→Int}{a b:Nat}{e l:Int}(y:Ld a e g)(z:Ld b l h)(K:∀t,f t=g t*h t)(B:c=e*l):∃s,s<2^L.length∧Ld a 1 (pS L s)∧Ld b 1 (pS L (2^L.length-1-s))∧Zm p (fun t=>g t-e*pS L s t)∧Zm p (fun t=>h t-l*pS L (2^L.length-1-s) t)∧Zm ((p:Int)^k) (fun t=>l*g t-c*pS L s t)∧Zm ((p:Int)^k) (fun t=>e*h t-c*pS L (2^L.length-1-s) t):=by have P:(p:Int)≠0:=o;have C:¬(p:Int)∣e:=fun h=>hc (by rw[B];exact gH h (pO ..));have Q:¬(p:Int)∣l:=fun h=>hc (by rw[B];exact gH h (oL ..));have D:Zm p (fun t=>f t-c*pA L t):=I.Bj O;obtain⟨s,i,R,s1,s2,S,T,W⟩:=acN o G L x c g h hc y.po z.po (D.congr fun t=>by rw[K]);(have lead:∀(a:Nat)(e i:Int)(g A:Int→Int),Ld a e g→¬(p:Int)∣e→¬(p:Int)∣i→(∃d,Ld d 1 A)→Zm p (fun t=>g t-i*A t)→Ld a 1 A∧Zm p (fun t=>g t-e*A t):=by intro a e i g A n X h3 ⟨d,u⟩ E;have h6:Dm p d g:=(Dm.ig (u.aO i) (by rw[kJ];exact h3)).alike E;obtain rfl:=(Dm.ig n X).uniq h6;refine⟨u,?_⟩;have M:=E.lead (n.sub (u.aO i));rw[kJ]at M;refine(E.sub (Zm.of_dvd u.po M)).congr fun t=>?_;rw[im];omega);obtain⟨v,q⟩:=lead a e i g _ y C s2 (JX L m s) T;obtain⟨w,r⟩:=lead b l R h _ z Q S (JX L m _) W;have F:∀t,pS L s t*pS L (2^L.length-1-s) t=pA L t:=An L s s1;have th:ku p (pS L s) (pS L (2^L.length-1-s)):=H.PG v.po w.po (c:=c) (D.congr fun t=>by rw[F]);have Pq:ku p (pS L (2^L.length-1-s)) (pS L s):=H.PG w.po v.po (c:=c) (D.congr fun t=>by rw[bm (pS L (2^L.length-1-s) t),F]);obtain⟨j,rfl⟩:∃j,k=j+1:=⟨k-1,o⟩;have n:=EX N G v w th Pq y z B hc (I.congr fun t=>by rw[K,F]) q r j (Z _);exact⟨s,s1,v,w,q,r,n.1,n.2⟩
end Go.Proofs.YtldcjkhbiffdoaaGreatDoor
