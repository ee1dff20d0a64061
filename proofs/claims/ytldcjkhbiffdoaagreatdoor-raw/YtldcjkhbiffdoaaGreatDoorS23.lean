import Derived.Test.YtldcjkhbiffdoaaGreatDoorS02
import Derived.Test.YtldcjkhbiffdoaaGreatDoorS14
import Derived.Test.YtldcjkhbiffdoaaGreatDoorS13
set_option maxRecDepth 100000
set_option maxHeartbeats 40000000
set_option linter.unusedSimpArgs false
set_option linter.defProp false
namespace Go.Proofs.YtldcjkhbiffdoaaGreatDoor
open Go.RowKit Go.Proofs.Tryz
def uj:∀d:Nat,d+2≤3^(d+1)
|0=>J
|d+1=>by have:=uj d;rw[e_];omega
def Me{d:Nat}(h:0<d):d+2≤3^d:=by
 obtain⟨c,rfl⟩:∃c,d=c+1:=⟨d-1,o⟩;have:=uj c;cases c with
 |zero=>decide
 |succ c=>have:=uj c;rw[e_]at*;omega
structure PS(G A B:ae)(e:Nat):Prop where
 ta:Tr A
 tb:Tr B
 pa:aH A=A
 pb:aH B=B
 res:gW (A.length+B.length) A B=G
 la:A.length≤11
 lb:B.length≤11
 ba:Bd A e
 bb:Bd B e
 gr:e+1≤13∨(B.length<A.length∧e+1≤26*3^(12-A.length))
def Qa(A B:ae)(e:Nat):Nat:=e+(A.length+1-B.length)*(e+1)
def PS.grow{G A B:ae}{e:Nat}(h:PS G A B e)(g:B≠ []):Qa A B e+1≤26*3^(12-B.length):=by
 obtain⟨ta,tb,pa,pb,res,la,lb,ba,bb,gr⟩:=h;have p:=bR.2 g;unfold Qa;have i:∀n,1≤3^n:=fun n=>du o;rcases gr with a|⟨a,j⟩;by_cases q:A.length<B.length;rw[show A.length+1-B.length=0 by omega];have:=i (12-B.length);omega;obtain⟨d,k⟩:∃d,A.length=B.length+d:=⟨A.length-B.length,o⟩;rw[show A.length+1-B.length=d+1 by omega];have b:=uj d;have c:3^(d+1)≤3^(12-B.length):=cI o o;have f:(d+1)*(e+1)≤(d+1)*13:=dt (Z _) a;omega;obtain⟨d,k⟩:∃d,A.length=B.length+d:=⟨A.length-B.length,o⟩;rw[show A.length+1-B.length=d+1 by omega];have b:=Me (d:=d) o;have c:3^(12-B.length)=3^(12-A.length)*3^d:=by rw[←iE];congr 1;omega
 have f:(d+2)*(e+1)≤3^d*(26*3^(12-A.length)):=dt b j;have l:(d+2)*(e+1)=e+(d+1)*(e+1)+1:=by rw[show d+2=(d+1)+1 from rfl,nN (d+1)];omega
 have m:3^d*(26*3^(12-A.length))=26*(3^(12-A.length)*3^d):=by rw[Nat.mul_left_comm,Bc (3^d)]
 rw[←l,c,←m];exact f
def PS.top{G A B:ae}{e:Nat}(h:PS G A B e)(a:B≠ []):Qa A B e≤5000000∧e≤5000000:=by have b:=h.grow a;have c:=bR.2 a;have d:3^(12-B.length)≤3^11:=cI o o;have f:3^11=177147:=J;(have g:e≤Qa A B e:=by unfold Qa;omega);omega
def PS.small{G A B:ae}{e:Nat}(h:PS G A B e):e≤5000000:=by rcases h.gr with a|⟨a,b⟩;omega;have c:3^(12-A.length)≤3^11:=cI o o;have d:3^11=177147:=J;omega
def PS.next{G A B R:ae}{e:Nat}(h:PS G A B e)(d:B≠ [])(f:RO B A R 0)(i:Bd R (Qa A B e)):PS G B (aH (tz R)) (Qa A B e)∧(aH (tz R)).length<B.length:=by have j:=h.grow d;obtain⟨ta,tb,pa,pb,res,la,lb,ba,bb,gr⟩:=h;obtain⟨g,l,m,n⟩:=f.ends d;(have p:e≤Qa A B e:=by unfold Qa;omega);refine⟨⟨tb,l,pb,m,?_,lb,o,bb.mono p,Bd.aH (fun k=>by rw[bN];exact i k),.inr ⟨g,j⟩⟩,g⟩;rw[←res,n];by_cases t:A.length+B.length≤B.length+(aH (tz R)).length;exact Ok (Z _) (by have:A.length≤(aH (tz R)).length:=o;obtain⟨q,c,hc,a,r,b,hlen,hle,_⟩:=f;(have s:aH (tz R)=q:=by rw[oR hc r (eS R) fun k=>by rw[bN,a],b]);rw[s];omega);exact Ok (Z _) o
def PS.ends{G A:ae}{e:Nat}(h:PS G A [] e):A=G:=by have:=h.res;rw[iL]at this;exact this
def PS.start{a b:ae}(ta:Tr a)(tb:Tr b)(la:a.length≤11)(lb:b.length≤11)(ba:Bd a 12)(bb:Bd b 12):PS (qM a b) (aH a) (aH b) 12:=⟨ta.aH,tb.aH,jY ta,jY tb,by unfold qM;rw[bV,bV],by rw[bV];exact la,by rw[bV];exact lb,ba.aH,bb.aH,.inl o⟩
def yU(l:ae):(bD l).natAbs=cont l:=by unfold bD;split;simp;simp
def Qs(a b:ae):Int.gcd (bD a) (bD b)=Nat.gcd (cont a) (cont b):=by unfold Int.gcd;rw[yU,yU]
def lex(a b:ae):Nat→Bool
|0=>false
|k+1=>if a.getD k 0=b.getD k 0 then lex a b k else decide (a.getD k 0<b.getD k 0)
def tL(a b:ae):Bool:=if a.length=b.length then lex a b a.length else decide (a.length<b.length)
def Oj(a b:ae):∀n,lex a b n=true↔∃k,k<n∧a.getD k 0<b.getD k 0∧∀j,k<j→j<n→a.getD j 0=b.getD j 0
|0=>by simp[lex]
|n+1=>by unfold lex;by_cases h:a.getD n 0=b.getD n 0;rw[V h,Oj a b n];constructor;rintro⟨k,f,c,d⟩;refine⟨k,o,c,fun j g i=>?_⟩;rcases(show j=n∨j<n by omega)with rfl|e;exact h;exact d j g e;rintro⟨k,f,c,d⟩;rcases(show k=n∨k<n by omega)with rfl|e;omega;exact⟨k,e,c,fun j g i=>d j g o⟩;rw[U h];constructor;intro f;exact⟨n,o,zk f,fun j g i=>o⟩;rintro⟨k,f,c,d⟩;rcases(show k=n∨k<n by omega)with rfl|e;exact fR c;exact absurd (d n e o) h
def AG(a b:ae):tL a b=true↔a.length<b.length∨(a.length=b.length∧∃k,k<a.length∧a.getD k 0<b.getD k 0∧∀j,k<j→j<a.length→a.getD j 0=b.getD j 0):=by unfold tL;by_cases h:a.length=b.length;rw[V h,Oj];exact⟨fun c=>.inr ⟨h,c⟩,fun c=>c.elim (fun d=>o) fun d=>d.2⟩;rw[U h,rD];exact⟨fun c=>.inl c,fun c=>c.elim id fun d=>absurd d.1 h⟩
def NU(a:ae):tL a a=false:=by
 cases h:tL a a with
 |false=>rfl
 |true=>rcases(AG a a).1 h with b|⟨_,k,_,c,_⟩<;>omega
def EH{a b c:ae}(i:tL a b=true)(f:tL b c=true):tL a c=true:=by rw[AG]at*;rcases i with i|⟨p,k,q,l,g⟩;rcases f with f|⟨n,_⟩;left;omega;left;omega;rcases f with f|⟨n,m,m1,m2,m3⟩;left;omega;right;refine⟨o,?_⟩;rcases(show k<m∨k=m∨m<k by omega)with h|rfl|h;exact⟨m,o,by rw[g m h o];exact m2,fun j d e=>by rw[g j o e,m3 j d o]⟩;exact⟨k,o,o,fun j d e=>by rw[g j d e,m3 j d o]⟩;exact⟨k,o,by rw[←m3 k h o];exact l,fun j d e=>by rw[g j d e,m3 j o o]⟩
def Pc(a b:ae):∀n,lex a b n=true∨lex b a n=true∨∀j,j<n→a.getD j 0=b.getD j 0
|0=>.inr (.inr fun j h=>o)
|n+1=>by unfold lex;by_cases h:a.getD n 0=b.getD n 0;rw[V h,V h.symm];rcases Pc a b n with c|c|c;exact .inl c;exact .inr (.inl c);refine .inr (.inr fun j e=>?_);rcases(show j=n∨j<n by omega)with rfl|d;exact h;exact c j d;rw[U h,U (Ne.symm h),rD,rD];omega
def Gh(a b:ae):tL a b=true∨tL b a=true∨a=b:=by by_cases h:a.length=b.length;rcases Pc a b a.length with c|c|c;left;unfold tL;rw[V h];exact c;right;left;unfold tL;rw[V h.symm,←h];exact c;right;right;refine BA h fun k=>?_;rcases aX k a.length with d|d;exact c k d;rw[au d,au o];rcases(show a.length<b.length∨b.length<a.length by omega)with c|c;left;rw[AG];exact .inl c;right;left;rw[AG];exact .inl c
def nle(a b:ae):Prop:=tL b a=false
def Nx{a b:ae}(h:tL a b=true):nle a b:=by
 cases c:tL b a with
 |false=>exact c
 |true=>have:=EH h c;rw[NU]at this;cases this
def Q7{a b c:ae}(f:nle a b)(e:nle b c):nle a c:=by rcases Gh a b with h|h|rfl;rcases Gh b c with d|d|rfl;exact Nx (EH h d);rw[e]at d;cases d;exact Nx h;rw[f]at h;cases h;exact e
def KU(L:List (ae)):Prop:=L.Pairwise nle
def KU.nil:KU []:=List.Pairwise.nil
structure yz(L0:List (ae))(x:ae)(k:Nat)(L:List (ae)):Prop where
 ex:∃A B,L=A++x::B∧L0=A++B∧A.length=k∧∀b,b∈B→nle x b
def yz.start(a:List (ae))(x:ae):yz a x a.length (a++[x]):=⟨a,[],rfl,Y,rfl,fun b h=>ji⟩
def yz.at{b L:List (ae)}{x:ae}{k:Nat}(h:yz b x (k+1) L):∃y,L[k]?=some y∧L[k+1]?=some x∧b[k]?=some y:=by obtain⟨A,B,rfl,rfl,c,d⟩:=h.ex;have a:k<A.length:=o;refine⟨A[k],?_,?_,?_⟩;rw[eo a,cj a];rw[iN o,c];simp;rw[eo a,cj a]
def yz.next{f L:List (ae)}{x y:ae}{k:Nat}(h:yz f x (k+1) L)(g:L[k]?=some y)(i:tL x y=true):yz f x k ((L.set (k+1) y).set k x):=by
 obtain⟨A,B,rfl,rfl,j,l⟩:=h.ex;have m:k<A.length:=o;obtain⟨a,z,rfl⟩:∃a z,A=a++[z]:=⟨A.dropLast,A.getLast (by intro e;subst e;simp at m),(MX _).symm⟩;have c:a.length=k:=by simp at j;omega
 have n:z=y:=by rw[eo aZ,iN o,c]at g;simpa using g
 subst n;refine⟨a,z::B,?_,Y,c,fun b d=>?_⟩;subst c;simp[List.set_append];rcases ep.1 d with rfl|d;exact Nx i;exact l b d
def yz.ends{c L:List (ae)}{x:ae}{k:Nat}(h:yz c x k L)(n:KU c)(he:k=0∨∃y,c[k-1]?=some y∧0<k∧tL x y=false):KU L∧L.Perm (c++[x]):=by obtain⟨A,B,rfl,rfl,t,p⟩:=h.ex;refine⟨?_,?_⟩;obtain⟨s1,s2,q⟩:=List.pairwise_append.1 n;refine List.pairwise_append.2 ⟨s1,List.Pairwise.cons p s2,fun a d b e=>?_⟩;rcases ep.1 e with rfl|e;rcases he with he|⟨y,f,u,j⟩;have:A=[]:=ij.1 o;subst this;cases d;(have l:k-1<A.length:=by omega);rw[eo l]at f;obtain⟨i,hi⟩:=vA d;have g:=(eQ.1 hi).1;rcases(show i=k-1∨i<k-1 by omega)with rfl|r;obtain rfl:a=y:=dw (hi.symm.trans f);exact j;have m:=NI.1 s1 i (k-1) g l r;rw[(eQ.1 hi).2,(eQ.1 f).2]at m;exact Q7 m j;exact q a d b e;have s:(A++x::B).Perm (x::(A++B)):=List.perm_middle;exact s.trans (List.perm_append_comm (l₁:=[x]) (l₂:=A++B))
structure Fac(zs:ae)(c:Int)(ps:List (ae×Nat)):Prop where
 cont:c=bD zs
 each:∀x,x∈ps→Pp x.1∧Iz (fun t=>ev t x.1)∧1≤x.2
 eq:∀t,ev t zs=c*pE ps t
 Wp:ps.Pairwise fun a b=>tL a.1 b.1=true
def Gb.perm{q:ae}{P a:List (ae)}(h:Gb q P)(b:a.Perm P):Gb q a:=by
 refine⟨fun g c=>h.mem g (b.mem_iff.1 c),fun t=>?_⟩;rw[h.eq];have:∀ {A B:List (ae)},A.Perm B→pA (fs A) t=pA (fs B) t:=by
  intro A B d;induction d with
  |nil=>rfl
  |cons x _ e=>exact jZ (ev t x* ·) e
  |swap x y l=>show ev t y*(ev t x*pA (fs l) t)=ev t x*(ev t y*pA (fs l) t);rw[gy]
  |trans _ _ f i=>exact f.trans i
 exact(this b).symm
def KU.Wp{P:List (ae)}(h:KU P)(d:Kv P):P.Pairwise fun a b=>tL a b=true:=by unfold KU at h;unfold Kv at d;refine List.Pairwise.imp₂ (fun a b e f=>?_) h d;rcases Gh a b with c|c|rfl;exact c;have:tL b a=false:=e;rw[this]at c;cases c;exact absurd (Dv.refl cq.zero _) f.1
def Fac.of{zs q:ae}{P:List (ae)}{ps:List (ae×Nat)}{left:ae}(d:Tr zs)(e:zs≠ [])(b:FE (aH zs) q)(a:Gb q P)(hS:KU P)(h:Nt (aH zs) P P.length ps left):Fac zs (bD zs) ps where
 cont:=rfl
 each:=fun x hx=>by
  have hm:=h.map
  rw[cY]at hm
  have c:x.1∈P:=af5
  exact⟨(a.mem _ c).1,(a.mem _ c).2,(h.pos x hx).1⟩
 eq:=fun t=>by
  have:=d
  have:=e
  rw[w_ zs t,h.ends b a t]
 Wp:=by
  have hm:=h.map
  rw[cY]at hm
  have:=hS.Wp (a.apart b)
  rw[←hm]at this
  exact List.pairwise_map.1 this

def Pp.mul{a b:ae}(c:Pp a)(d:Pp b):∃q,Pp q∧∀t,ev t q=ev t a*ev t b:=by obtain⟨q,f,e⟩:=((Po.ev a).mul (Po.ev b)).list;have h:=m_ f c.tr d.tr c.ne d.ne fun t=>(e t).symm;refine⟨q,Pp.of f ?_ ((c.prm.mul d.prm).congr fun t=>(e t).symm),fun t=>(e t).symm⟩;rw[h.2.2];exact BV c.lead d.lead
def Yy:Pp [1]:=⟨by intro _;decide,J,J⟩
def Va(t:Int):∀a b:List (ae×Nat),pE (a++b) t=pE a t*pE b t
| [],b=>Ml
|x::a,b=>by show ev t x.1^x.2*pE (a++b) t=ev t x.1^x.2*pE a t*pE b t;rw[Va t a b,bB]
def KX(p q:Int):ae→Int
| []=>0
|c::l=>c*q^l.length+p*KX p q l
def On(p:Int):∀l:ae,KX p 1 l=ev p l
| []=>rfl
|c::l=>by simp[KX,ev,On p l,Int.one_pow]
def Oq(p q:Int):∀l:ae,∃s,Po s∧∀t,q^l.length*ev t l=q*KX p q l+(q*t-p)*s t
| []=>⟨fun _=>0,Po.zero,fun t=>by simp[ev,KX]⟩
|c::l=>by obtain⟨s,a,e⟩:=Oq p q l;refine⟨fun t=>q*KX p q l+q*(t*s t),(Po.const _).add ((((Po.mW 1).congr (g:=fun t=>t) fun t=>(lG t).symm).mul a).aO q),fun t=>?_⟩;show q^(l.length+1)*(c+t*ev t l)=q*(c*q^l.length+p*KX p q l)+(q*t-p)*(q*KX p q l+q*(t*s t));(have b:q^(l.length+1)*(c+t*ev t l)=q*(c*q^l.length)+q*t*(q^l.length*ev t l):=by rw[bW];simp only[dE,c_,bB,bm,gy]);rw[b,e];simp only[dE,c_,im,ek,bB,bm,gy];omega
def Iz.aaU{f:ae}(c:Pp f)(h:Iz (fun t=>ev t f)){p q:Int}(i:q≠0){l:ae}(m:∀t,ev t l=ev t f)(r:KX p q l=0):f.length=2:=by
 obtain⟨s,u,e⟩:=Oq p q l;rw[r]at e;have j:∀n:Nat,q^n≠0:=fun n=>by
  induction n with
  |zero=>simp
  |succ n v=>rw[bW];exact tN v i
 have a:Ld 1 q (fun t=>q*t-p):=⟨fun _=>-p,(Pl.const _),fun t=>by show q*t-p=q*t^1+-p;rw[lG];omega⟩;have b:Dm 0 1 (fun t=>q*t-p):=Dm.ig a (dS.2 i);have k:Zm 0 (fun t=>q^l.length*ev t f-(q*t-p)*s t):=Zm.aq 0 fun t=>by have:=e t;rw[m]at this;omega
 rcases h.Nv.2.2.2 _ _ _ a.po u (dS.2 (j _)) k with d|d;exact absurd (b.uniq d) J;have w:=b.mul cq.zero d;have x:=(c.tr.dm c.ne).aO cq.zero (dS.2 (j l.length));have y:=w.alike (g:=fun t=>q^l.length*ev t f) (k.congr fun t=>rfl);have z:=x.uniq y;have:=bR.2 c.ne;omega
def Hc(k:Nat):Int:=if k%2=0 then -(((k+1)/2:Nat):Int)else(((k+1)/2:Nat):Int)
def aaF{i j:Nat}(h:Hc i=Hc j):i=j:=by unfold Hc at h;split at h<;>split at h<;>omega
def Yz{k:Nat}(h:k≤15):(Hc k).natAbs≤8:=by unfold Hc;split<;>omega
def O4(A:ae)(k:Nat):Prop:=List.Perm A ((List.range k).map Hc)
def O4.zero:O4 [] 0:=List.Perm.refl _
def O4.next{A:ae}{k:Nat}(h:O4 A k)(i:Nat):O4 (A.take i++(Hc k::A.drop i)) (k+1):=by unfold O4;rw[MO,rp];(have a:List.Perm (A.take i++(Hc k::A.drop i)) (Hc k::A):=by have:=@List.perm_middle _ (Hc k) (A.take i) (A.drop i);rwa[xT]at this);refine a.trans (((List.perm_append_singleton (Hc k) A).symm).trans ?_);exact List.Perm.append_right _ h
def O4.len{A:ae}{k:Nat}(h:O4 A k):A.length=k:=by have:=h.length_eq;simpa using this
def O4.le{A:ae}{k:Nat}(h:O4 A k)(b:k≤16)(i:Nat):(A.getD i 0).natAbs≤8:=by by_cases hi:i<A.length;(have hm:A.getD i 0∈A:=by rw[jV,cj hi];exact jl hi);obtain⟨j,a,e⟩:=ko.1 (h.mem_iff.1 hm);have a:=Ca.1 a;rw[←e];exact Yz o;rw[jV,dF o];simp
def O4.ne{A:ae}{k:Nat}(h:O4 A k){i j:Nat}(hi:i<A.length)(c:j<A.length)(g:i≠j):A.getD i 0≠A.getD j 0:=by have l:((List.range k).map Hc).Pairwise (· ≠ ·):=List.Pairwise.map Hc (fun a b m e=>m (aaF e)) (List.nodup_range (n:=k));have p:A.Pairwise (· ≠ ·):=h.symm.pairwise l (fun e q=>e q.symm);rw[jV,jV,cj hi,cj c];have f:=NI.1 p;rcases Nat.lt_or_gt_of_ne g with d|d;exact f i j hi c d;exact fun e=>f j i c hi d e.symm
def Vx{x:Int}(a:x.natAbs≤8){e:Nat}:∀ {l:ae},(∀k,(l.getD k 0).natAbs<10^e)→(ev x l).natAbs<10^(e+l.length)
| [],_=>by show(0:Int).natAbs<_;exact du J
|c::l,h=>by
 have h1:=h 0;have b:=Vx a (e:=e) (l:=l) fun k=>OF;have d:(ev x (c::l)).natAbs≤c.natAbs+8*(ev x l).natAbs:=by show(c+x*ev x l).natAbs≤_;refine aW (vU _ _) ?_;rw[eX];exact Nat.add_le_add_left (kh _ a) _
 have f:(10:Nat)^e≤10^(e+l.length):=cI J o;have g:(10:Nat)^(e+(c::l).length)=10^(e+l.length)*10:=by rw[kO,←rM,e_]
 have i:c.natAbs<10^e:=l9;omega
def Mv(l:ae)(k j:Nat):(l.drop k).getD j 0=l.getD (k+j) 0:=by rw[jV,jV,rk]
def yV{x:Int}(a:x.natAbs≤8){l:ae}(h:Bd l 17)(c:l.length≤11)(k:Nat):(ev x (l.drop k)).natAbs<10^28:=by(have b:=Vx a (e:=17) (l:=l.drop k) fun j=>by rw[Mv];exact h _);refine dy b (cI J ?_);simp;omega
def Iz.abV{f:ae}(b:Pp f)(h:Iz (fun t=>ev t f))(d:3≤f.length)(a:Int):ev a f≠0:=fun c=>by have:=h.aaU b (p:=a) (q:=1) J (l:=f) (fun _=>rfl) (by rw[On];exact c);omega
def It:List (ae×Nat)→Nat
| []=>0
|x::l=>(x.1.length-1)*x.2+It l
def ah8(l:List (ae×Nat)):∀i,It (l.take i)≤It l:=by
 induction l with
 |nil=>intro i;simp[It]
 |cons x l a=>
  intro i;cases i with
  |zero=>simp[It]
  |succ i=>show(x.1.length-1)*x.2+It (l.take i)≤(x.1.length-1)*x.2+It l;have:=a i;omega
def Pp.anO{a:ae}(b:Pp a):∀n:Nat,∃q,Pp q∧(∀t,ev t q=ev t a^n)∧q.length=(a.length-1)*n+1
|0=>⟨[1],Yy,fun t=>gQ,Y⟩
|n+1=>by obtain⟨q,c,e,g⟩:=Pp.anO b n;obtain⟨r,d,f⟩:=c.mul b;have h:=(m_ d.tr c.tr b.tr c.ne b.ne f).2.1;have i:=bR.2 b.ne;refine⟨r,d,fun t=>by rw[f,e,bW],?_⟩;rw[yQ];omega
def UR:∀ {ps:List (ae×Nat)},(∀x,x∈ps→Pp x.1)→∃q,Pp q∧(∀t,ev t q=pE ps t)∧q.length=It ps+1
| [],_=>⟨[1],Yy,fun t=>by simp[ev,pE],rfl⟩
|x::ps,h=>by obtain⟨q,b,e,j⟩:=(h x (dh ..)).anO x.2;obtain⟨r,c,f,g⟩:=UR (ps:=ps) fun y i=>h y (eh _ i);obtain⟨s,d,a⟩:=b.mul c;have k:=(m_ d.tr b.tr c.tr b.ne c.ne a).2.1;refine⟨s,d,fun t=>by rw[a,e,f];rfl,?_⟩;show s.length=(x.1.length-1)*x.2+It ps+1;omega
def Fac.Ef{zs:ae}{c:Int}{ps:List (ae×Nat)}(h:Fac zs c ps)(a:Tr zs)(b:zs≠ []):zs.length=It ps+1:=by obtain⟨q,d,e,f⟩:=UR fun x g=>(h.each x g).1;have hc:c≠0:=fun i=>b (a.zero fun t=>by rw[h.eq,i];simp);(have j:zs=q.map fun x=>c*x:=Pp.ext a (d.tr.aO hc) fun t=>by rw[h.eq,bs,e]);rw[j,mT,f]
end Go.Proofs.YtldcjkhbiffdoaaGreatDoor
