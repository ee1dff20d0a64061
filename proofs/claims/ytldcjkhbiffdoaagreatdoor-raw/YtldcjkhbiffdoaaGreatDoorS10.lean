import Derived.Test.YtldcjkhbiffdoaaGreatDoorS09
set_option maxRecDepth 100000
set_option maxHeartbeats 40000000
set_option linter.unusedSimpArgs false
set_option linter.defProp false
namespace Go.Proofs.YtldcjkhbiffdoaaGreatDoor
open Go.RowKit Go.Proofs.Tryz
def Uh:∀(N:Nat)(f:Nat→Nat),(∀i,i≤N→f i<N)→∃i j,i<j∧j≤N∧f i=f j
|0,f,h=>by have:=h 0 (Z _);omega
|N+1,f,h=>by by_cases d:∃i,i≤N∧f i=f (N+1);obtain⟨i,b,c⟩:=d;exact⟨i,N+1,o,Z _,c⟩;have b:∀i,i≤N→f i≠f (N+1):=fun i hi e=>d ⟨i,hi,e⟩;have l:=h (N+1) (Z _);obtain⟨i,j,c,g,k⟩:=Uh N (fun i=>if f (N+1)<f i then f i-1 else f i) (fun i hi=>by have c:=h i o;have g:=b i hi;show(if f (N+1)<f i then f i-1 else f i)<N;split<;>omega);refine⟨i,j,c,o,?_⟩;have m:=b i o;have n:=b j o;have a:(if f (N+1)<f i then f i-1 else f i)=(if f (N+1)<f j then f j-1 else f j):=k;split at a<;>split at a<;>omega
def cq.IG{n:Nat}(e:2≤n)(h:∀d,2≤d→d*d≤n→¬d∣n):cq (n:Int):=by obtain⟨p,f,g,i⟩:=CJ n e;obtain⟨m,hm⟩:=g;(have a:p=n:=by rcases aX m 2 with c|c;rcases(show m=0∨m=1 by omega)with rfl|rfl;omega;omega;exfalso;rcases Nat.le_total p m with b|b;exact h p f (by rw[hm];exact Gp _ b) ⟨m,hm⟩;exact h m c (by rw[hm];exact kh _ b) ⟨p,by rw[hm,Bc]⟩);rw[←a];exact i
def cq.only{n:Nat}(j:2≤n)(h:cq (n:Int)){d:Nat}(c:d∣n):d=1∨d=n:=by
 obtain⟨m,hm⟩:=c;have e:(n:Int)∣(d:Int)*(m:Int):=by rw[←kI,←hm];exact nQ _
 have f:0<d:=by rcases j5 d with rfl|h;(· simp at hm;omega);exact h
 have g:0<m:=by rcases j5 m with rfl|h;(· simp at hm;omega);exact h
 rcases h.1 _ _ e with a|a;right;have i:=te f (zM.1 a);have b:=te o (show d∣n from⟨m,hm⟩);omega;left;have i:=te g (zM.1 a);rcases aX d 2 with b|b;omega;exfalso;have:2*m≤d*m:=kh _ b;omega
def cq.PA{p q:Nat}(d:2≤p)(a:2≤q)(b:cq (q:Int))(e:p≠q):¬(p:Int)∣(q:Int):=fun h=>by rcases b.only a (zM.1 h)with c|c<;>omega
def qE:List Nat→Nat
| []=>1
|p::l=>p*qE l
def Hn{p:Nat}(b:2≤p)(a:cq (p:Int)):∀l:List Nat,(∀q,q∈l→2≤q∧cq (q:Int)∧q≠p)→¬(p:Int)∣(qE l:Int)
| [],_=>by simpa[qE]using a.2
|q::l,h=>by obtain⟨c,d,f⟩:=h q (dh ..);simp only[qE,kI];exact a.mul (cq.PA b c d (fun e=>f e.symm)) (Hn b a l fun x g=>h x (eh _ g))
def Asc:List Nat→Prop
| []=>True
|p::l=>(∀q,q∈l→p<q)∧Asc l
def O_:∀(l:List Nat),Asc l→(∀q,q∈l→2≤q∧cq (q:Int))→∀z:Int,(∀q,q∈l→(q:Int)∣z)→(qE l:Int)∣z
| [],_,_,z,_=>by simp[qE]
|p::l,ha,h,z,a=>by obtain⟨y,rfl⟩:=O_ l ha.2 (fun q hq=>h q (eh _ hq)) z (fun q hq=>a q (eh _ hq));obtain⟨c,b⟩:=h p (dh ..);have d:=Hn c b l fun q hq=>⟨(h q (eh _ hq)).1,(h q (eh _ hq)).2,WH⟩;obtain⟨x,rfl⟩:=(b.1 _ _ (a p (dh ..))).resolve_left d;exact⟨x,by simp only[qE,kI];simp only[rZ]⟩
def code(K M:Nat)(z:Int):ae→Nat
| []=>0
|a::l=>((z*a%M)*K/M).toNat+K*code K M z l
def LO{K M:Nat}(e:0<K)(f:0<M)(x:Int):0≤x%M*K/M∧(x%M*K/M).toNat<K:=by have a:0≤x%M:=gu _ o;have b:x%M<M:=ik _ o;have c:0≤x%M*K:=fO a o;have d:0≤x%M*K/M:=ze c o;have g:x%M*K/M<K:=ah4 o (by rw[bm (K:Int)];exact V9 b o);exact⟨d,o⟩
def Px{K M:Nat}(b:0<K)(c:0<M)(z:Int):∀l,code K M z l<K^l.length
| []=>by simp[code]
|a::l=>by have d:=Px b c z l;have f:=(LO b c (z*a)).2;simp only[code,kO,e_];have e:K*(code K M z l+1)≤K*K^l.length:=Gp _ d;rw[yQ,Fp]at e;rw[Bc (K^l.length)];omega
def OH{K M:Nat}(c:0<K)(d:0<M)(y z:Int):∀l,code K M y l=code K M z l→∀a,a∈l→(((z*a%M)-(y*a%M))*K).natAbs<M
| [],_,a,h=>ji
|b::l,e,a,f=>by
 simp only[code]at e;have j:=LO c d (y*b);have k:=LO c d (z*b);have i:(y*b%M*K/M).toNat=(z*b%M*K/M).toNat∧code K M y l=code K M z l:=by(have g:((y*b%M*K/M).toNat+K*code K M y l)%K=((z*b%M*K/M).toNat+K*code K M z l)%K:=by rw[e]);rw[afA,afA,wm j.2,wm k.2]at g;refine⟨g,?_⟩;rw[g]at e;exact Nat.eq_of_mul_eq_mul_left c (Nat.add_left_cancel e)
 rcases ep.1 f with rfl|f;have m:y*a%M*K/M=z*a%M*K/M:=by have:=i.1;omega
 have n:=sS (y*a%M*K) M;have p:=sS (z*a%M*K) M;have r:=gu (y*a%M*K) (show(M:Int)≠0 by omega);have s:=gu (z*a%M*K) (show(M:Int)≠0 by omega);have t:=ik (y*a%M*K) (show(0:Int)<M by omega);have u:=ik (z*a%M*K) (show(0:Int)<M by omega);rw[m]at n;rw[im];generalize y*a%M*K=Y at*;generalize z*a%M*K=Z at*;generalize Z/M=q at*;omega;exact OH c d y z l i.2 a f
def Hh(t w:Int)(M:Int)(E:Int→Int):∀l:ae,ev t (l.map fun a=>w*a+M*E a)=w*ev t l+M*ev t (l.map E)
| []=>gQ
|a::l=>by simp only[pK,ev,Hh t w M E l];simp only[rZ];omega
def FQ{K M:Int}(a:0≤K)(A:ae)(b:∀k,((A.getD k 0).natAbs:Int)*K≤M):∀(F:ae)(k:Nat),(((nO F A).getD k 0).natAbs:Int)*K≤M*eT F
| [],k=>by simp[nO,eT]
|f::F,k=>by
 have c:0≤M:=yi (fO o a) (b 0);simp only[nO,cG,aS,eT];have g:((0::nO F A).getD k 0).natAbs*K≤M*eT F:=by
  cases k with
  |zero=>simp;exact fO c o
  |succ k=>simpa using FQ a A b F k
 have h:((f*A.getD k 0).natAbs:Int)*K≤M*f.natAbs:=by rw[eX,kI,bB,bm M];exact mQ (b k) o
 have d:((f*A.getD k 0+(0::nO F A).getD k 0).natAbs:Int)≤(f*A.getD k 0).natAbs+((0::nO F A).getD k 0).natAbs:=o;have e:=l_ d a;rw[c_]at e;rw[MD,dE];omega
def avG{K M:Nat}(e:0<K){A B:ae}(s:K^(A.length+B.length)<M):∃(w:Int)(b c j m:ae),0<w∧w<M∧b.length=A.length∧c.length=B.length∧(∀t,ev t b=w*ev t A+M*ev t j)∧(∀t,ev t c=w*ev t B+M*ev t m)∧(∀k,((b.getD k 0).natAbs:Int)*K≤M)∧∀k,((c.getD k 0).natAbs:Int)*K≤M:=by
 have f:0<M:=o;obtain⟨y,z,u,n,p⟩:=Uh (K^(A++B).length) (fun i=>code K M (i:Int) (A++B)) (fun i _=>Px e f _ _);rw[ri]at n;have hc:=OH e f _ _ _ p;have q:∀a:Int,((z:Int)*a%M)-((y:Int)*a%M)=((z:Int)-y)*a+M*((y:Int)*a/M-(z:Int)*a/M):=by intro a;have d:=sS ((z:Int)*a) M;have v:=sS ((y:Int)*a) M;rw[im,ek];omega
 have g:∀l:ae,(∀a,a∈l→a∈A++B)→∀k,(((l.map fun a=>((z:Int)-y)*a+M*((y:Int)*a/M-(z:Int)*a/M)).getD k 0).natAbs:Int)*K≤M:=by intro l r k;rcases aX k l.length with h|h;have d:=hc _ (r _ (jl h));rw[eX,q]at d;rw[List.getD,q_,cj h];simp only[Option.map_some,Option.getD_some];rw[←kI];have:((K:Nat):Int).natAbs=K:=mv K;rw[this]at d;omega;rw[au dN];simp
 exact⟨(z:Int)-y,_,_,_,_,o,o,by rw[mT],by rw[mT],fun t=>Hh t _ _ _ A,fun t=>Hh t _ _ _ B,g A fun a h=>yu _ h,g B fun a h=>Gt _ h⟩
def aeh(F F':Int→Int)(n p:Nat):Prop:=∃A B:ae,A.length≤n-1∧B.length≤n∧Zm p (fun t=>ev t A*F t+ev t B*F' t)∧¬(Zm p (fun t=>ev t A)∧Zm p (fun t=>ev t B))
def aeC{F F':Int→Int}{n p:Nat}{c:Int}(hn:0<n)(f:cq (p:Int))(y:Ld n c F)(a:Ld (n-1) (n*c) F')(O:¬Zm p F)(h:¬(¬(p:Int)∣c∧ku p F F')):aeh F F' n p:=by
 by_cases hc:(p:Int)∣c;obtain⟨g,⟨G,h1,B⟩,h2⟩:=y;obtain⟨g',⟨C,P,Q⟩,h4⟩:=a;have R:Zm p (fun t=>F t-g t):=(Zm.of_dvd (Po.mW n) hc).congr fun t=>YR;have e2:Zm p (fun t=>F' t-g' t):=(Zm.of_dvd (c:=n*c) (Po.mW (n-1)) (gH hc (oL ..))).congr fun t=>by rw[h4];omega
 have pg:Po g:=⟨_,G,h1,B⟩;have D:Po g':=⟨_,C,P,Q⟩;refine⟨C,G.map fun x=>-1*x,P,l9,?_,fun h=>O ?_⟩;refine((R.mul D).sub (e2.mul pg)).congr fun t=>?_;show ev t C*F t+ev t (G.map fun x=>-1*x)*F' t=g' t*(F t-g t)-g t*(F' t-g' t);rw[bs,←B,←Q];simp only[rZ];omega;refine(R.sub h.2).congr fun t=>?_;show F t=F t-g t-ev t (G.map fun x=>-1*x);rw[bs,←B];omega;have th:¬ku p F F':=fun E=>h ⟨hc,E⟩;have l:Dm p n F:=Dm.ig y hc;have q:Pl n F':=by have:=a.pl;rwa[show n-1+1=n by omega]at this
 obtain⟨u,v,d,k,z,A,g1,g2,⟨N,g3⟩,⟨N1,g4⟩,⟨N2,g5⟩,g6,g7,g8,g9,g10⟩:=L9 f n y.po q (fun h=>O h.1);rcases Zm.jS (m:=p) g3 with r|⟨e,_,r⟩;exact absurd r g6;have he:0<e:=by rcases j5 e with rfl|E;obtain⟨k0,q2,S⟩:=r.zero;exact absurd ⟨u,v,k0,g1,g2,q2,(g8.add S).congr fun t=>o⟩ th;exact E
 rcases Zm.jS (m:=p) g4 with q2|⟨j,_,q2⟩;exact absurd ((g9.add (q2.mul g3.po)).congr (g:=fun t=>k*F t) fun t=>o) (l.aO f g7).not;have S:=((r.mul f q2).alike (g:=fun t=>k*F t) g9).uniq (l.aO f g7);have⟨_,a0,_,z3,T⟩:=q2;have H:Pl n a0:=z3.pl.mono o;have aB:∃b0,Pl (n-1) b0∧Zm p (fun t=>A t-b0 t):=by rcases Zm.jS (m:=p) g5 with I|⟨i,_,d0,b0,I,w2,W⟩;exact⟨fun _=>0,Pl.zero _,I.congr fun t=>pq _⟩;refine⟨b0,?_,W⟩;have w4:Dm p i A:=⟨d0,b0,I,w2,W⟩;have w5:=(r.mul f w4).le (n:=n) (g:=fun t=>k*F' t) (q.aO k) (g10.neg.congr fun t=>o);exact w2.pl.mono o
 obtain⟨b0,ay,aC⟩:=aB;obtain⟨s,X,K⟩:=H;obtain⟨L,x3,M⟩:=ay;have w:Po a0:=⟨_,s,X,K⟩;have b:Po b0:=⟨_,L,x3,M⟩;refine⟨L,s.map fun x=>-1*x,x3,by simpa using X,?_,fun hh=>q2.not ?_⟩;refine Zm.je f g7 ((b.mul y.po).add ((Po.ev (s.map fun x=>-1*x)).mul a.po)|>.congr fun t=>by rw[←M]) ?_;refine(((g9.mul b).sub (g10.mul w)).add (((T.mul b).sub (aC.mul w)).mul g3.po)).congr fun t=>?_;show k*(ev t L*F t+ev t (s.map fun x=>-1*x)*F' t)=b0 t*(k*F t-d t*z t)-a0 t*(k*F' t-d t*A t)+d t*(b0 t*(z t-a0 t)-a0 t*(A t-b0 t));rw[bs,←K,←M];simp only[rZ];omega;refine(T.sub hh.2).congr fun t=>?_;show z t=z t-a0 t-ev t (s.map fun x=>-1*x);rw[bs,←K];omega
def Pa{F F':Int→Int}{n:Nat}(m:Po F)(f:Po F'):∀l:List Nat,Asc l→(∀q,q∈l→2≤q∧cq (q:Int)∧aeh F F' n q)→∃A B:ae,A.length≤n-1∧B.length≤n∧Zm (qE l) (fun t=>ev t A*F t+ev t B*F' t)∧∀q,q∈l→¬(Zm q (fun t=>ev t A)∧Zm q (fun t=>ev t B))
| [],_,_=>⟨[],[],Y,Y,Zm.aq _ fun t=>gQ,fun q hq=>by cases hq⟩
|p::l,ha,h=>by
 obtain⟨A,B,h1,h2,r,s⟩:=Pa m f l ha.2 fun q hq=>h q (eh _ hq);obtain⟨i,b,c,d,u,v,w,y⟩:=h p (dh ..);have a:=Hn i b l fun q hq=>⟨(h q (eh _ hq)).1,(h q (eh _ hq)).2.1,WH⟩;refine⟨fk (A.map fun x=>(p:Int)*x) (c.map fun x=>(qE l:Int)*x),fk (B.map fun x=>(p:Int)*x) (d.map fun x=>(qE l:Int)*x),nM _ _ _ l9 (by simpa using u),nM _ _ _ FZ (by simpa using v),?_,fun q hq e=>?_⟩;obtain⟨g,g1,g2⟩:=r;obtain⟨g',g3,g4⟩:=w;refine⟨fun t=>g t+g' t,g1.add g3,fun t=>?_⟩;have C:ev t A*F t+ev t B*F' t=(qE l:Int)*g t:=g2 t;have D:ev t c*F t+ev t d*F' t=(p:Int)*g' t:=g4 t;show ev t (fk (A.map fun x=>(p:Int)*x) (c.map fun x=>(qE l:Int)*x))*F t+ev t (fk (B.map fun x=>(p:Int)*x) (d.map fun x=>(qE l:Int)*x))*F' t=(qE (p::l):Int)*(g t+g' t);rw[dM,dM,bs,bs,bs,bs];simp only[qE,kI];have E:=jZ (fun z=>(p:Int)*z) C;have G:=jZ (fun z=>(qE l:Int)*z) D;revert E G;generalize(qE l:Int)=P;simp only[rZ];omega;rcases ep.1 hq with rfl|hq;refine y ⟨Zm.je b a (Po.ev _) ?_,Zm.je b a (Po.ev _) ?_⟩;exact(e.1.sub (Zm.of_dvd (Po.ev A) (nQ _))).congr fun t=>UE;exact(e.2.sub (Zm.of_dvd (Po.ev B) (nQ _))).congr fun t=>UE;obtain⟨q2,qd,_⟩:=h q (eh _ hq);have j:¬(q:Int)∣(p:Int):=cq.PA q2 i b WH;have k:(q:Int)∣(qE l:Int):=by
  have:∀l:List Nat,q∈l→(q:Int)∣(qE l:Int):=by
   intro l;induction l with
   |nil=>intro h;cases h
   |cons x l H=>intro h;simp only[qE,kI];rcases ep.1 h with rfl|h;exact pO ..;exact gH (H h) (oL ..)
  exact this l hq
 refine s q hq ⟨Zm.je qd j (Po.ev _) ?_,Zm.je qd j (Po.ev _) ?_⟩;exact(e.1.sub (Zm.of_dvd (Po.ev c) k)).congr fun t=>UE;exact(e.2.sub (Zm.of_dvd (Po.ev d) k)).congr fun t=>UE
def O6{q:Nat}:∀l:List Nat,q∈l→∃r,qE l=q*r
| [],h=>ji
|x::l,h=>by rcases ep.1 h with rfl|h;exact⟨qE l,rfl⟩;obtain⟨r,a⟩:=O6 l h;exact⟨x*r,by simp only[qE,a];rw[Nat.mul_left_comm]⟩
def KM{F F':ae}{n:Nat}{c:Int}{K:Nat}{l:List Nat}(R:0<n)(E:Ld n c (fun t=>ev t F))(hc:c≠0)(G:ku 0 (fun t=>ev t F) (fun t=>ev t F'))(S:2*(eT F+eT F')≤K)(z:0<K)(C:Asc l)(H:K^(2*n-1)<qE l)(h:∀q,q∈l→2≤q∧cq (q:Int)∧aeh (fun t=>ev t F) (fun t=>ev t F') n q):False:=by
 obtain⟨A,B,T,W,I,L⟩:=Pa (Po.ev F) (Po.ev F') l C h;have v:K^(A.length+B.length)<qE l:=fe (cI z o) H;obtain⟨w,b,d,s,u,g1,g2,g3,g4,g5,g6,g7,g8⟩:=avG z v;have X:0<qE l:=o;have M:Zm (qE l) (fun t=>ev t (fk (nO F b) (nO F' d))-ev t []):=by refine(((I.aO w).add (Zm.of_dvd ((Po.ev s).mul (Po.ev F)) (nQ _))).add (Zm.of_dvd ((Po.ev u).mul (Po.ev F')) (nQ _))).congr fun t=>?_;show ev t (fk (nO F b) (nO F' d))-ev t []=w*(ev t A*ev t F+ev t B*ev t F')+(qE l:Int)*(ev t s*ev t F)+(qE l:Int)*(ev t u*ev t F');rw[dM,rF,rF,g5,g6];simp only[ev];generalize(qE l:Int)=P;simp only[rZ];omega
 have bd:∀k,2*(((fk (nO F b) (nO F' d)).getD k 0).natAbs:Int)≤(qE l:Int):=by intro k;have b1:=FQ (K:=(K:Int)) o b g7 F k;have b2:=FQ (K:=(K:Int)) o d g8 F' k;rw[cG];have N:(((nO F b).getD k 0+(nO F' d).getD k 0).natAbs:Int)≤((nO F b).getD k 0).natAbs+((nO F' d).getD k 0).natAbs:=o;have O:=l_ N (show(0:Int)≤K by omega);rw[c_]at O;(have b5:(qE l:Int)*eT F+(qE l:Int)*eT F'=(qE l:Int)*((eT F+eT F':Nat):Int):=by rw[←dE,MD]);have Q:(qE l:Int)*(2*((eT F+eT F':Nat):Int))≤(qE l:Int)*K:=mQ o o;refine Int.le_of_mul_le_mul_right (a:=(K:Int)) ?_ o;rw[bB];rw[gy]at Q;omega
 have z2:∀t,ev t F*ev t b+ev t F'*ev t d=0:=by intro t;have:=Ou M bd (fun k=>aZ) t;rw[dM,rF,rF]at this;exact this
 have g:Dm 0 n (fun t=>ev t F):=tO E hc;have z3:Zm 0 (fun t=>ev t d):=by have d1:Dv 0 (fun t=>ev t F) (fun t=>ev t F'*ev t d):=⟨1,fun t=>-ev t b,cq.zero.2,(Po.ev b).neg,Zm.aq _ fun t=>by have:=z2 t;show 1*(ev t F'*ev t d)-ev t F*-ev t b=0;rw[kT];omega⟩;have d2:=G.dv cq.zero (Po.ev d) d1;rcases Zm.jS (m:=0) (Pl.ev d)with x|⟨e,he,x⟩;exact x;obtain⟨_,_,j,_,_,q,_⟩:=d2.Ef cq.zero g x;omega
 have z4:Zm 0 (fun t=>ev t b):=by(have:Zm 0 (fun t=>ev t F*ev t b):=Zm.aq _ fun t=>by have i:=z2 t;have q2:ev t d=0:=z3.Sw t;rw[q2]at i;omega);exact(Zm.or cq.zero (Po.ev F) (Po.ev b) this).resolve_left g.not
 have hw:∀q,q∈l→(q:Int)∣w:=by intro q f;obtain⟨q2,qd,_⟩:=h q f;refine kQ fun p=>?_;obtain⟨r,D⟩:=O6 l f;refine L q f ⟨Zm.je qd p (Po.ev A) ⟨_,(Po.ev s).aO (-(r:Int)),fun t=>?_⟩,Zm.je qd p (Po.ev B) ⟨_,(Po.ev u).aO (-(r:Int)),fun t=>?_⟩⟩;have i:=g5 t;have y:ev t b=0:=z4.Sw t;rw[y,D,kI,bB]at i;show w*ev t A=(q:Int)*(-(r:Int)*ev t s);rw[jk,kT];omega;have i:=g6 t;have y:ev t d=0:=z3.Sw t;rw[y,D,kI,bB]at i;show w*ev t B=(q:Int)*(-(r:Int)*ev t u);rw[jk,kT];omega
 have:=O_ l C (fun q f=>⟨(h q f).1,(h q f).2.1⟩) w hw;have:=Int.le_of_dvd g1 this;omega
def tp(n:Nat):Bool:=decide (2≤n)&& (List.range 32).all fun d=>decide (d<2)||decide (n<d*d)||decide (n%d≠0)
def ps:List Nat:=(List.range 1000).filter tp
def Wp:List Nat→Bool
| []=>true
|p::l=>l.all (fun q=>decide (p<q))&&Wp l
def Oh:∀l,Wp l=true→Asc l
| [],_=>trivial
|p::l,h=>by simp only[Wp,pL,sF,S_]at h;exact⟨h.1,Oh l h.2⟩
def afZ:Wp ps=true:=SQ
def aep:(10^19)^19<qE ps:=SQ
def afd{q:Nat}(h:q∈ps):2≤q∧q<1000∧cq (q:Int):=by unfold ps at h;rw[U3]at h;obtain⟨b,a⟩:=h;have b:=Ca.1 b;simp only[tp,pL,sF,S_,Bool.or_eq_true]at a;refine⟨a.1,b,cq.IG a.1 fun d g i f=>?_⟩;(have c:d<32:=by rcases aX d 32 with h|h;exact h;have:=dt h h;omega);rcases a.2 d (Ca.2 c)with(e|e)|e;omega;omega;exact e (agT f)
def aid:∃l:List Nat,(∀q,q∈l→2≤q∧q<1000∧cq (q:Int))∧Asc l∧(10^19)^19<qE l:=by have h:∀l,l=ps→(∀q,q∈l→2≤q∧q<1000∧cq (q:Int))∧Asc l∧(10^19)^19<qE l:=fun l e=>⟨fun q a=>afd (by rw[←e];exact a),Oh l (by rw[e];exact afZ),by rw[e];exact aep⟩;exact⟨ps,h ps rfl⟩
def fits{F F':ae}{n:Nat}{c:Int}(f:0<n)(k:n≤10)(g:Ld n c (fun t=>ev t F))(hc:c≠0)(b:Ld (n-1) (n*c) (fun t=>ev t F'))(m:D9 (fun t=>ev t F))(r:ku 0 (fun t=>ev t F) (fun t=>ev t F'))(i:2*(eT F+eT F')≤10^19):∃p:Nat,2≤p∧p<1000∧cq (p:Int)∧¬(p:Int)∣c∧ku p (fun t=>ev t F) (fun t=>ev t F'):=by refine kQ fun s=>?_;obtain⟨l,u,v,j⟩:=aid;have d:0<10^19:=du J;generalize 10^19=K at j i d;have w:K^(2*n-1)<qE l:=fe (cI d o) j;refine KM (l:=l) f g hc r i d v w fun q x=>?_;obtain⟨e,y,a⟩:=u q x;exact⟨e,a,aeC f a g b (m.2 q e a) fun h=>s ⟨q,e,y,a,h⟩⟩
def oh:Nat→Nat→Nat
|_,0=>1
|0,_+1=>0
|n+1,k+1=>oh n k+oh n (k+1)
def AH:∀n k,n<k→oh n k=0
|0,0,h=>o
|0,k+1,_=>rfl
|n+1,0,h=>o
|n+1,k+1,h=>by simp only[oh,AH n k o,AH n (k+1) o]
def xJ(n:Nat):oh n 0=1:=by cases n<;>rfl
def I2:∀n,oh n n=1
|0=>rfl
|n+1=>by simp only[oh,I2 n,AH n (n+1) o]
def AF:∀n k,(k+1)*oh (n+1) (k+1)=(n+1)*oh n k
|0,0=>rfl
|0,k+1=>by simp[oh]
|n+1,0=>by have a:=AF n 0;simp only[oh,xJ]at a ⊢;omega
|n+1,k+1=>by have a:=AF n k;have b:=AF n (k+1);have c:oh (n+1+1) (k+1+1)=oh (n+1) (k+1)+oh (n+1) (k+1+1):=rfl;have d:oh (n+1) (k+1)=oh n k+oh n (k+1):=rfl;rw[c,yQ,b];have e:(k+1+1)*oh (n+1) (k+1)=(k+1)*oh (n+1) (k+1)+oh (n+1) (k+1):=nN ..;rw[e,a];have f:(n+1+1)*oh (n+1) (k+1)=(n+1)*oh (n+1) (k+1)+oh (n+1) (k+1):=nN ..;rw[f];(have g:(n+1)*oh (n+1) (k+1)=(n+1)*oh n k+(n+1)*oh n (k+1):=by rw[d,yQ]);omega
def ZQ{p:Nat}(d:2≤p)(a:cq (p:Int)){k:Nat}(e:0<k)(f:k<p):(p:Int)∣(oh p k:Int):=by obtain⟨n,rfl⟩:∃n,p=n+1:=⟨p-1,o⟩;obtain⟨j,rfl⟩:∃j,k=j+1:=⟨k-1,o⟩;have h:=AF n j;(have b:((n+1:Nat):Int)∣((j+1:Nat):Int)*(oh (n+1) (j+1):Int):=by rw[←kI,h,kI];exact pO ..);refine(a.1 _ _ b).resolve_left fun c=>?_;have:=te o (zM.1 c);omega
def adG(x y:Int):∀n,(x+y)^n=sm (fun k=>(oh n k:Int)*(x^k*y^(n-k))) (n+1)
|0=>by simp[sm,oh]
|n+1=>by
 rw[bW,adG x y n,dE,bm _ x,bm _ y,←oV,←oV];have b:sm (fun k=>x*((oh n k:Int)*(x^k*y^(n-k)))) (n+1)=sm (fun k=>(oh n k:Int)*(x^(k+1)*y^(n-k))) (n+1):=by refine cP _ fun k _=>?_;rw[bW];generalize x^k=a;simp only[rZ]
 have c:sm (fun k=>y*((oh n k:Int)*(x^k*y^(n-k)))) (n+1)=y^(n+1)+sm (fun k=>(oh n (k+1):Int)*(x^(k+1)*y^(n-k))) (n+1):=by(have:sm (fun k=>y*((oh n k:Int)*(x^k*y^(n-k)))) (n+1)=sm (fun k=>(oh n k:Int)*(x^k*y^(n+1-k))) (n+1):=by refine cP _ fun k e=>?_;rw[show n+1-k=(n-k)+1 by omega,bW];generalize y^(n-k)=a;simp only[rZ]);rw[this,iH];simp only[sm,xJ,yN,Int.pow_zero,lC,TO];rw[AH n (n+1) o];(have:sm (fun k=>(oh n (k+1):Int)*(x^(k+1)*y^(n+1-(k+1)))) n=sm (fun k=>(oh n (k+1):Int)*(x^(k+1)*y^(n-k))) n:=by refine cP _ fun k _=>?_;rw[show n+1-(k+1)=n-k by omega]);rw[this];simp
 rw[b,c,iH _ (n+1)];have d:sm (fun k=>(oh (n+1) (k+1):Int)*(x^(k+1)*y^(n+1-(k+1)))) (n+1)=sm (fun k=>(oh n k:Int)*(x^(k+1)*y^(n-k))) (n+1)+sm (fun k=>(oh n (k+1):Int)*(x^(k+1)*y^(n-k))) (n+1):=by rw[←vY];refine cP _ fun k _=>?_;rw[show n+1-(k+1)=n-k by omega,show oh (n+1) (k+1)=oh n k+oh n (k+1)from rfl,MD,c_]
 rw[d];simp[xJ];omega
def Po.sm{F:Nat→Int→Int}:∀n,(∀k,k<n→Po (F k))→Po (fun t=>Go.Proofs.YtldcjkhbiffdoaaGreatDoor.sm (fun k=>F k t) n)
|0,_=>Po.zero
|n+1,h=>(Po.sm n fun k a=>h k o).add (h n o)
def Zm.sm{m:Int}{F:Nat→Int→Int}:∀n,(∀k,k<n→Zm m (F k))→Zm m (fun t=>Go.Proofs.YtldcjkhbiffdoaaGreatDoor.sm (fun k=>F k t) n)
|0,_=>Zm.aq m fun _=>rfl
|n+1,h=>(Zm.sm n fun k a=>h k o).add (h n o)
def JN{p:Nat}(b:2≤p)(c:cq (p:Int)){f g:Int→Int}(d:Po f)(e:Po g):Zm p (fun t=>(f t+g t)^p-(f t^p+g t^p)):=by obtain⟨n,a⟩:∃n,p=n+1:=⟨p-1,o⟩;have h:Zm p (fun t=>sm (fun k=>(oh p (k+1):Int)*(f t^(k+1)*g t^(p-(k+1)))) n):=Zm.sm n fun k j=>Zm.of_dvd ((d.pow _).mul (e.pow _)) (ZQ b c o o);refine h.congr fun t=>?_;rw[adG,iH];(have i:sm (fun k=>(oh p (k+1):Int)*(f t^(k+1)*g t^(p-(k+1)))) p=sm (fun k=>(oh p (k+1):Int)*(f t^(k+1)*g t^(p-(k+1)))) n+f t^p:=by(conv=>lhs;arg 2;rw[a]);simp only[sm];congr 1;rw[←a,I2,C7];simp);rw[i,xJ];simp;omega
def GZ{p:Nat}(b:2≤p)(c:cq (p:Int)):∀a:Nat,(p:Int)∣(a:Int)^p-a
|0=>by obtain⟨n,rfl⟩:∃n,p=n+1:=⟨p-1,o⟩;rw[bW];simp
|a+1=>by have e:=(JN b c (Po.const (a:Int)) (Po.const 1)).const;have f:=GZ b c a;have d:=js e f;rw[Int.one_pow]at d;rw[show((a+1:Nat):Int)=(a:Int)+1 by omega];have g:((a:Int)+1)^p-((a:Int)^p+1)+((a:Int)^p-a)=((a:Int)+1)^p-((a:Int)+1):=o;rwa[g]at d
def agx{p:Nat}(b:2≤p)(c:cq (p:Int)):∀l:ae,(∀a,a∈l→0≤a)→Zm p (fun t=>ev t l^p-ev (t^p) l)
| [],_=>Zm.aq _ fun t=>by obtain⟨n,rfl⟩:∃n,p=n+1:=⟨p-1,o⟩;simp only[ev];rw[bW];simp
|a::l,h=>by have e:=agx b c l fun x f=>h x (eh _ f);have j:0≤a:=h a (dh ..);have g:=JN b c (Po.const a) ((Po.mW 1).mul (Po.ev l));have d:=GZ b c a.toNat;rw[show((a.toNat:Nat):Int)=a by omega]at d;have i:Zm p (fun _=>(a^p-a)*1):=Zm.of_dvd (Po.const 1) d;refine((g.add i).add (e.mul (Po.mW p))).congr fun t=>?_;simp only[ev];show(a+t*ev t l)^p-(a+t^p*ev (t^p) l)=(a+t^1*ev t l)^p-(a^p+(t^1*ev t l)^p)+(a^p-a)*1+t^p*(ev t l^p-ev (t^p) l);rw[lG,GX,ek];omega
def I0(a:Int):∀l:ae,∃m:ae,m.length≤l.length-1∧∀t,ev t l=ev a l+(t-a)*ev t m
| []=>⟨[],Y,fun t=>gQ⟩
|c::l=>by
 obtain⟨m,h1,d⟩:=I0 a l;cases l with
 |nil=>exact⟨[],Y,fun t=>gQ⟩
 |cons b l=>refine⟨ev a (b::l)::m,UI,fun t=>?_⟩;simp only[ev]at d ⊢;have e:=d t;rw[e];simp only[rZ];omega
def JC{p:Nat}(g:2≤p)(e:cq (p:Int)):∀n,n≤p→∀l:ae,l.length≤n→(∀a:Nat,a<n→(p:Int)∣ev a l)→Zm p (fun t=>ev t l)
|0,_,l,h,_=>by obtain rfl:l=[]:=ij.1 o;exact Zm.aq _ fun _=>rfl
|n+1,s,l,h,d=>by obtain⟨m,u,f⟩:=I0 (n:Int) l;have i:=JC g e n o m o (fun a j=>by have b:=d a o;have k:=d n o;rw[f a]at b;have q:(p:Int)∣((a:Int)-n)*ev a m:=(Int.dvd_add_right k).1 b;refine(e.1 _ _ q).resolve_left fun r=>?_;have v:=Cs r OM;omega);obtain⟨c,hc⟩:=d n o;have b:Zm p (fun _=>(p:Int)*c):=⟨fun _=>c,Po.const c,fun _=>rfl⟩;refine(b.add (i.mul ((Po.mW 1).sub (Po.const n)))).congr fun t=>?_;rw[f t,hc,lG]
def less:Nat→Int→Int
|0=>fun _=>1
|n+1=>fun y=>less n y*(y-n)
def Ft:∀n,Ld n 1 (less n)
|0=>Ld.const 1
|n+1=>by have a:Ld 1 1 (fun y:Int=>y-n):=⟨fun _=>-(n:Int),Pl.const _,fun t=>by show t-n=1*t^1+-(n:Int);rw[lG];omega⟩;exact(Ft n).mul a
def Ez:∀n (a:Nat),a<n→less n a=0
|0,a,h=>o
|n+1,a,h=>by show less n a*((a:Int)-n)=0;rcases(show a=n∨a<n by omega)with rfl|b;rw[LM,jw];rw[Ez n a b,lr]
def aeA{p:Nat}(b:2≤p)(c:cq (p:Int)):Zm p (fun y=>less p y-(y^p-y)):=by(have e:Pl p (fun y=>less p y-(y^p-y)):=by(have f:Ld p (1-(1-0)) (fun y=>less p y-(y^p-y)):=by refine(Ft p).sub (Ld.one_pow.sub (Ld.acD ?_));exact((Pl.mW 1).mono o).congr fun t=>(lG t).symm);exact f.IQ);obtain⟨l,g,d⟩:=e;refine(JC b c p (Z _) l g fun a h=>?_).congr d;rw[←d];show(p:Int)∣less p a-((a:Int)^p-a);rw[Ez p a h,Int.zero_sub];exact CN.2 (GZ b c a)
def Po.comp{f:Int→Int}(b:Po f){v:Int→Int}(c:Po v):Po (fun t=>f (v t)):=by
 obtain⟨n,l,_,d⟩:=b;have:∀l:ae,Po (fun t=>Go.Proofs.YtldcjkhbiffdoaaGreatDoor.ev (v t) l):=by
  intro l;induction l with
  |nil=>exact Po.zero
  |cons a l e=>exact(Po.const a).add (c.mul e)
 exact(this l).congr fun t=>d (v t)
def Zm.comp{m:Int}{f:Int→Int}(a:Zm m f){v:Int→Int}(b:Po v):Zm m (fun t=>f (v t)):=by obtain⟨g,c,d⟩:=a;exact⟨_,c.comp b,fun t=>d (v t)⟩
def QB{p:Nat}(b:2≤p)(c:cq (p:Int)){l:ae}(d:∀a,a∈l→0≤a):Zm p (fun t=>less p (ev t l)-(ev (t^p) l-ev t l)):=(((aeA b c).comp (Po.ev l)).add (agx b c l d)).congr fun t=>o
def Di(m:Int)(f g:Int→Int):Prop:=∃s,Po s∧Zm m (fun t=>g t-f t*s t)
def Di.dv{m:Int}(hm:cq m){f g:Int→Int}(h:Di m f g):Dv m f g:=by obtain⟨s,a,b⟩:=h;exact⟨1,s,hm.2,a,b.congr fun t=>o⟩
def Dv.di{p:Nat}(b:0<p)(d:cq (p:Int)){f g:Int→Int}(i:Po g)(h:Dv p f g):Di p f g:=by obtain⟨k,s,j,l,m⟩:=h;obtain⟨a,e,he⟩:=d.inv b j;refine⟨fun t=>a*s t,l.aO a,((m.aO a).sub (Zm.of_dvd i (c:=k*a-1) ⟨e,he⟩)).congr fun t=>?_⟩;show g t-f t*(a*s t)=a*(k*g t-f t*s t)-(k*a-1)*g t;simp only[rZ];omega
def Di.mul{m:Int}{f g h:Int→Int}(a:Po h)(b:Di m f g):Di m f (fun t=>h t*g t):=by obtain⟨s,c,d⟩:=b;exact⟨fun t=>h t*s t,a.mul c,(d.mul a).congr fun t=>by show h t*g t-f t*(h t*s t)=h t*(g t-f t*s t);simp only[rZ]⟩
def Di.add{m:Int}{f g h:Int→Int}(a:Di m f g)(b:Di m f h):Di m f (fun t=>g t+h t):=by obtain⟨s,c,d⟩:=a;obtain⟨s',e,i⟩:=b;exact⟨fun t=>s t+s' t,c.add e,(d.add i).congr fun t=>by show g t+h t-f t*(s t+s' t)=g t-f t*s t+(h t-f t*s' t);rw[dE];omega⟩
def Di.alike{m:Int}{f g h:Int→Int}(a:Di m f g)(b:Zm m (fun t=>h t-g t)):Di m f h:=by obtain⟨s,c,d⟩:=a;exact⟨s,c,(d.add b).congr fun t=>o⟩
def Di.sub{m:Int}{f g h:Int→Int}(a:Di m f g)(b:Di m f h):Di m f (fun t=>g t-h t):=(a.add (b.mul (Po.const (-1)))).alike (Zm.aq _ fun t=>o)
def Di.trans{m:Int}{f g h:Int→Int}(b:Di m f g)(c:Di m g h):Di m f h:=by obtain⟨s,d,e⟩:=b;obtain⟨s',a,i⟩:=c;exact⟨fun t=>s t*s' t,d.mul a,(i.add (e.mul a)).congr fun t=>by show h t-f t*(s t*s' t)=h t-g t*s' t+s' t*(g t-f t*s t);simp only[rZ];omega⟩
def Di.of_eq{m:Int}{f g s:Int→Int}(a:Po s)(h:∀t,g t=f t*s t):Di m f g:=⟨s,a,Zm.aq _ fun t=>by rw[h];omega⟩
def Di.mR{m:Int}{f g:Int→Int}(h:Zm m g):Di m f g:=⟨fun _=>0,Po.zero,h.congr fun t=>Y⟩
def ku.idem{p:Nat}(f:0<p)(g:cq (p:Int)){a b:Int→Int}(i:Po a)(h:ku p a b):∃e,Po e∧Di p a e∧Di p b (fun t=>e t-1):=by obtain⟨u,v,c,d,j,l,m⟩:=h;obtain⟨k,w,hw⟩:=g.inv f l;refine⟨fun t=>k*(u t*a t),(d.mul i).aO k,Di.of_eq (s:=fun t=>k*u t) (d.aO k) fun t=>by simp only[rZ],?_⟩;refine⟨fun t=>-(k*v t),(j.aO k).neg,((m.aO k).add (Zm.of_dvd (Po.const 1) (c:=c*k-1) ⟨w,hw⟩)).congr fun t=>?_⟩;show k*(u t*a t)-1-b t*-(k*v t)=k*(u t*a t+v t*b t-c)+(c*k-1)*1;simp only[rZ];omega
def Di.both{p:Nat}(f:0<p)(c:cq (p:Int)){a b g:Int→Int}(h:Po b)(hc:ku p a b)(i:Di p a g)(j:Di p b g):Di p (fun t=>a t*b t) g:=by obtain⟨s,d,e⟩:=j;have k:Dv p a (fun t=>b t*s t):=(i.dv c).alike (e.neg.congr fun t=>o);obtain⟨r,l,m⟩:=(hc.dv c d k).di f c d;refine⟨r,l,(e.add (m.mul h)).congr fun t=>?_⟩;show g t-a t*b t*r t=g t-b t*s t+b t*(s t-a t*r t);simp only[rZ];omega
def Pk{m:Int}{a e:Int→Int}(he:Po e)(h:Di m a (fun t=>e t-1)):∀n,Di m a (fun t=>e t^n-1)
|0=>Di.mR (Zm.aq _ fun t=>Y)
|n+1=>((Pk he h n).mul he|>.add h).alike (Zm.aq _ fun t=>by show e t^(n+1)-1-(e t*(e t^n-1)+(e t-1))=0;rw[bW,ek,bm (e t^n)];omega)
def reduce{p:Nat}(g:0<p){n:Nat}{f:Int→Int}(b:Pl n f):∃l:ae,l.length≤n∧(∀a,a∈l→0≤a∧a<p)∧Zm p (fun t=>f t-ev t l):=by
 obtain⟨l,h1,c⟩:=b;refine⟨l.map fun a=>a%p,l9,fun a d=>?_,⟨fun t=>ev t (l.map fun a=>a/p),Po.ev _,fun t=>?_⟩⟩;obtain⟨x,_,rfl⟩:=ko.1 d;exact⟨gu _ o,ik _ o⟩;show f t-ev t (l.map fun a=>a%p)=p*ev t (l.map fun a=>a/p);rw[c];have:∀l:ae,ev t l=ev t (l.map fun a=>a%p)+p*ev t (l.map fun a=>a/p):=by
  intro l;induction l with
  |nil=>simp[ev]
  |cons a l e=>have h:=sS a p;simp only[pK,ev,dE];rw[e,dE,gy];omega
 have:=this l;omega
def aaQ{p:Nat}(i:0<p)(a:cq (p:Int)){n:Nat}{f g:Int→Int}(l:Dm p n f)(m:Po g):∃r,Pl n r∧Di p f (fun t=>g t-r t):=by obtain⟨d,f0,s,u,v⟩:=l;obtain⟨N,b⟩:=m;obtain⟨j,q,r,h,w,y⟩:=afb u b;obtain⟨k,e,he⟩:=a.inv i (a.pow s j);refine⟨fun t=>k*r t,w.aO k,fun t=>k*q t,h.aO k,?_⟩;refine((Zm.of_dvd b.po (c:=d^j*k-1) ⟨e,he⟩).neg.sub (v.mul (h.aO k))).congr fun t=>?_;have A:=jZ (fun z=>k*z) (y t);show g t-k*r t-f t*(k*q t)=-((d^j*k-1)*g t)-k*q t*(f t-f0 t);revert A;generalize d^j=x;simp only[rZ];omega
def Fix(p:Nat)(f:Int→Int)(l:ae):Prop:=Di p f (fun t=>ev (t^p) l-ev t l)
def Ui{p:Nat}(m:2≤p)(d:cq (p:Int)){a b f:Int→Int}{c:Int}(q:Po a)(h:Po b)(hc:ku p a b)(r:¬(p:Int)∣c)(s:Zm p (fun t=>f t-c*(a t*b t))){l:ae}(u:∀x,x∈l→0≤x)(i:Di p a (fun t=>ev t l))(j:Di p b (fun t=>ev t l-1)):Fix p f l:=by
 have he:=Po.ev l;have v:Di p a (fun t=>ev t l^p-ev t l):=by obtain⟨n,w⟩:∃n,p=n+1:=⟨p-1,o⟩;have g:Di p a (fun t=>ev t l^p):=(i.mul (he.pow n)).alike (Zm.aq _ fun t=>by(conv=>lhs;lhs;rw[w,bW]);omega);exact g.sub i
 have g:Di p b (fun t=>ev t l^p-ev t l):=((Pk he j p).sub j).alike (Zm.aq _ fun t=>o);have y:=Di.both o d h hc v g;obtain⟨k,e,z⟩:=d.inv o r;have A:Di p f (fun t=>a t*b t):=by refine⟨fun _=>k,Po.const k,((s.aO k).neg.sub (Zm.of_dvd (q.mul h) (c:=c*k-1) ⟨e,z⟩)).congr fun t=>?_⟩;show a t*b t-f t*k=-(k*(f t-c*(a t*b t)))-(c*k-1)*(a t*b t);simp only[rZ];omega
 exact(A.trans y).alike ((agx m d l u).neg.congr fun t=>o)
def kW:ae→List (Int→Int)→Int→Int
|c::cs,b::B=>fun t=>c*b t+kW cs B t
|_,_=>fun _=>0
def dO(p:Nat)(B:List (Int→Int))(v:Int→Int):Prop:=∃cs:ae,cs.length=B.length∧Zm p (fun t=>v t-kW cs B t)
def Jm(p n:Nat)(f:Int→Int)(B:List (Int→Int)):Prop:=∀l:ae,l.length≤n→(∀x,x∈l→0≤x∧x<p)→Fix p f l→dO p B (fun t=>ev t l)
def apart{p n:Nat}(w:2≤p)(i:cq (p:Int)){f:Int→Int}(y:Dm p n f)(z:Sq p f){B:List (Int→Int)}(A:Jm p n f B){a b:Int→Int}{c:Int}(d:Po a)(j:Po b)(hc:¬(p:Int)∣c)(h:Zm p (fun t=>f t-c*(a t*b t))):∃e,Po e∧Di p a e∧Di p b (fun t=>e t-1)∧dO p B e:=by have q:=z.PG d j h;obtain⟨e,C,D,E⟩:=q.idem o i d;obtain⟨r,F,s⟩:=aaQ o i y C;obtain⟨l,G,u,v⟩:=reduce (p:=p) o F;have k:Di p a f:=⟨fun t=>c*b t,j.aO c,h.congr fun t=>by show f t-a t*(c*b t)=f t-c*(a t*b t);rw[gy]⟩;have m:Di p b f:=⟨fun t=>c*a t,d.aO c,h.congr fun t=>by show f t-b t*(c*a t)=f t-c*(a t*b t);rw[gy,bm (b t)]⟩;have d1:Di p a (fun t=>ev t l):=((D.sub (k.trans s)).alike (g:=fun t=>e t-(e t-r t)) (v.neg.congr fun t=>o));have d2:Di p b (fun t=>ev t l-1):=((E.sub (m.trans s)).alike (g:=fun t=>e t-1-(e t-r t)) (v.neg.congr fun t=>o));exact⟨_,Po.ev l,d1,d2,A l G u (Ui w i d j q hc h (fun x H=>(u x H).1) d1 d2)⟩
def EL{p:Nat}{u:Int→Int}:∀(cs:ae) (B:List (Int→Int)),(∀b,b∈B→∃k,Di p u (fun t=>b t-k))→∃k:Int,Di p u (fun t=>kW cs B t-k)
| [],B,_=>⟨0,Di.mR (Zm.aq _ fun t=>by cases B<;>simp[kW])⟩
|c::cs,[],_=>⟨0,Di.mR (Zm.aq _ fun t=>GP)⟩
|c::cs,b::B,h=>by obtain⟨k,d⟩:=h b (dh ..);obtain⟨a,e⟩:=EL cs B fun x f=>h x (eh _ f);refine⟨c*k+a,((d.mul (Po.const c)).add e).alike (Zm.aq _ fun t=>?_)⟩;show c*b t+kW cs B t-(c*k+a)-(c*(b t-k)+(kW cs B t-a))=0;rw[ek];omega
def kP{p:Nat}(a:cq (p:Int)){u:Int→Int}(hu:Po u)(b:¬Dm p 0 u){k:Int}(h:Di p u (fun _=>k)):(p:Int)∣k:=by refine kQ fun c=>?_;obtain⟨s,d,f⟩:=h;obtain⟨⟨e,g,i⟩,_⟩:=consts a c hu d (f.neg.congr fun t=>by show u t*s t-k=-(k-u t*s t);omega);exact b ((Dm.ig (Ld.const e) g).alike i)
def Pu{p:Nat}{u:Int→Int}(hu:Po u)(e:¬Zm p u)(f:¬Dm p 0 u)(h:¬qU p u):∃(a b:Int→Int)(c:Int),Po a∧Po b∧¬(p:Int)∣c∧Zm p (fun t=>c*u t-a t*b t)∧¬Dm p 0 a∧¬Dm p 0 b:=by refine kQ fun g=>h ⟨hu,e,f,fun a b c g1 g2 g3 g4=>?_⟩;exact kQ fun d=>g ⟨a,b,c,g1,g2,g3,g4,fun h=>d (Or.inl h),fun h=>d (Or.inr h)⟩
def QG{p n:Nat}(z:2≤p)(g:cq (p:Int)){f:Int→Int}(x:Dm p n f)(A:Sq p f){B:List (Int→Int)}(C:Jm p n f B){u w:Int→Int}{c:Int}(hu:Po u)(hw:Po w)(hc:¬(p:Int)∣c)(y:Zm p (fun t=>f t-c*(u t*w t)))(D:¬Dm p 0 u)(j:∀b,b∈B→∃k,Di p u (fun t=>b t-k)):qU p u:=by
 refine kQ fun hi=>?_;have l:¬Zm p u:=fun h=>x.not ((y.add ((h.mul hw).aO c)).congr fun t=>by rw[bm (w t)];omega);obtain⟨a,b,k,m,q,E,r,F,G⟩:=Pu hu l D hi;obtain⟨d,e,i⟩:=g.inv o E;have H:¬(p:Int)∣d:=fun h=>g.2 (by have:=oZ (gH h (oL k d)) ⟨e,i⟩;rwa[show k*d-(k*d-1)=1 by omega]at this);have I:Zm p (fun t=>f t-c*d*(a t*(b t*w t))):=by refine((y.add ((r.mul hw).aO (c*d))).sub (Zm.of_dvd ((hu.mul hw).aO c) (c:=k*d-1) ⟨e,i⟩)).congr fun t=>?_;show f t-c*d*(a t*(b t*w t))=f t-c*(u t*w t)+c*d*(w t*(k*u t-a t*b t))-(k*d-1)*(c*(u t*w t));simp only[rZ];omega
 obtain⟨ε,g1,g2,g3,cs,_,g4⟩:=apart z g x A C m (q.mul hw) (g.mul hc H) I;obtain⟨κ,g5⟩:=EL cs B j;have g6:Di p u (fun t=>ε t-κ):=g5.alike (g4.congr fun t=>o);have s:Di p a u:=by refine⟨fun t=>d*b t,q.aO d,((r.aO d).sub (Zm.of_dvd hu (c:=k*d-1) ⟨e,i⟩)).congr fun t=>?_⟩;show u t-a t*(d*b t)=d*(k*u t-a t*b t)-(k*d-1)*u t;simp only[rZ];omega
 have v:Di p b u:=by refine⟨fun t=>d*a t,m.aO d,((r.aO d).sub (Zm.of_dvd hu (c:=k*d-1) ⟨e,i⟩)).congr fun t=>?_⟩;show u t-b t*(d*a t)=d*(k*u t-a t*b t)-(k*d-1)*u t;simp only[rZ];omega
 have K:Di p b (fun t=>b t*w t):=Di.of_eq hw fun _=>rfl;have L:=kP g m F (k:=κ) ((g2.sub (s.trans g6)).alike (Zm.aq _ fun t=>o));have M:=kP g q G (k:=κ-1) (((K.trans g3).sub (v.trans g6)).alike (Zm.aq _ fun t=>o));apply g.2;have:=oZ L M;rwa[show κ-(κ-1)=1 by omega]at this
def Bu:∀(cs:ae) (B:List (Int→Int)) (c:Int) (b:Int→Int) (t:Int),cs.length=B.length→kW (cs++[c]) (B++[b]) t=kW cs B t+c*b t
| [],[],c,b,t,_=>GP
| [],a::B,c,b,t,h=>cT
|c'::cs,[],c,b,t,h=>cT
|c'::cs,a::B,c,b,t,h=>by show c'*a t+kW (cs++[c]) (B++[b]) t=c'*a t+kW cs B t+c*b t;rw[Bu cs B c b t dN];omega
def dO.snoc{p:Nat}{B:List (Int→Int)}{b v:Int→Int}{c:Int}(h:dO p B (fun t=>v t-c*b t)):dO p (B++[b]) v:=by obtain⟨cs,h1,a⟩:=h;refine⟨cs++[c],oM,a.congr fun t=>?_⟩;rw[Bu cs B c b t h1];show v t-(kW cs B t+c*b t)=v t-c*b t-kW cs B t;omega
def dO.GI{p:Nat}{B:List (Int→Int)}{b v:Int→Int}(h:dO p (B++[b]) v):∃c:Int,dO p B (fun t=>v t-c*b t):=by obtain⟨cs,h1,f⟩:=h;(have a:cs≠ []:=by intro e;subst e;simp at h1);refine⟨cs.getLast a,cs.dropLast,UI,f.congr fun t=>?_⟩;have d:=Bu cs.dropLast B (cs.getLast a) b t UI;rw[MX]at d;rw[d];show v t-cs.getLast a*b t-kW cs.dropLast B t=_;omega
def dO.alike{p:Nat}{B:List (Int→Int)}{v w:Int→Int}(h:dO p B v)(a:Zm p (fun t=>w t-v t)):dO p B w:=by obtain⟨cs,b,c⟩:=h;exact⟨cs,b,(c.add a).congr fun t=>o⟩
def Dep(p:Nat)(es:List (Int→Int)):Prop:=∃ds:ae,ds.length=es.length∧(∃i,¬(p:Int)∣ds.getD i 0)∧Zm p (kW ds es)
def Pn:∀(es:List (Int→Int)) (cs ds:ae),cs.length=es.length→ds.length=es.length→∃fs:ae,fs.length=es.length∧∀t,kW fs es t=kW cs es t+kW ds es t
| [],cs,ds,h1,h2=>⟨[],rfl,fun t=>by obtain rfl:cs=[]:=ij.1 l9;obtain rfl:ds=[]:=ij.1 FZ;simp[kW]⟩
|e::es,cs,ds,h1,h2=>by
 cases cs with
 |nil=>simp at h1
 |cons c cs=>
  cases ds with
  |nil=>simp at h2
  |cons d ds=>obtain⟨fs,a,b⟩:=Pn es cs ds l9 FZ;refine⟨(c+d)::fs,by simp[a],fun t=>?_⟩;show(c+d)*e t+kW fs es t=c*e t+kW cs es t+(d*e t+kW ds es t);rw[b,c_];omega
def KC(k:Int):∀(es:List (Int→Int)) (cs:ae) (t:Int),kW (cs.map fun x=>k*x) es t=k*kW cs es t
| [],cs,t=>by cases cs<;>simp[kW]
|e::es,[],t=>GP
|e::es,c::cs,t=>by show k*c*e t+kW (cs.map fun x=>k*x) es t=k*(c*e t+kW cs es t);rw[KC k es cs t,dE,bB]
def dO.comb{p:Nat}{B:List (Int→Int)}{v w:Int→Int}(h:dO p B v)(a:dO p B w)(c:Int):dO p B (fun t=>v t-c*w t):=by obtain⟨cs,b,d⟩:=h;obtain⟨ds,e,f⟩:=a;obtain⟨fs,g,i⟩:=Pn B cs (ds.map fun x=>-c*x) b (by simpa using e);refine⟨fs,g,(d.sub (f.aO c)).congr fun t=>?_⟩;show v t-c*w t-kW fs B t=_;rw[i,KC,ek,jk];omega
def Ga:∀(c1 c2:ae) (b a:List (Int→Int)) (t:Int),c1.length=b.length→kW (c1++c2) (b++a) t=kW c1 b t+kW c2 a t
| [],c2,[],a,t,_=>GP
| [],c2,e::b,a,t,h=>cT
|c::c1,c2,[],a,t,h=>cT
|c::c1,c2,e::b,a,t,h=>by show c*e t+kW (c1++c2) (b++a) t=c*e t+kW c1 b t+kW c2 a t;rw[Ga c1 c2 b a t dN];omega
def an6{p:Nat}{B:List (Int→Int)}{e:Int→Int}:∀l:List (Int→Int),(∀x,x∈l→∃k:Int,dO p B (fun t=>x t-k*e t))→∃a:List (Int→Int),a.length=l.length∧(∀x,x∈a→dO p B x)∧∀ds:ae,ds.length=l.length→∃μ:Int,∀t,kW ds a t=kW ds l t-μ*e t
| [],_=>⟨[],rfl,fun x c=>(by cases c),fun ds h=>⟨0,fun t=>by obtain rfl:ds=[]:=ij.1 dN;simp[kW]⟩⟩
|x::l,h=>by
 obtain⟨a,h1,f,g⟩:=an6 l fun y b=>h y (eh _ b);obtain⟨k,i⟩:=h x (dh ..);refine⟨(fun t=>x t-k*e t)::a,oM,fun y b=>?_,fun ds hd=>?_⟩;rcases ep.1 b with rfl|b;exact i;exact f y b
 ·cases ds with
  |nil=>simp at hd
  |cons d ds=>obtain⟨μ,j⟩:=g ds SS;refine⟨d*k+μ,fun t=>?_⟩;show d*(x t-k*e t)+kW ds a t=d*x t+kW ds l t-(d*k+μ)*e t;rw[j,ek,c_,bB];omega
def dep{p:Nat}(C:2≤p)(n:cq (p:Int)):∀(k:Nat) (B es:List (Int→Int)),(∀b,b∈B→Po b)→B.length=k→k<es.length→(∀e,e∈es→dO p B e)→Dep p es
|0,B,es,_,q,s,h=>by
 obtain rfl:B=[]:=ij.1 q;cases es with
 |nil=>simp at s
 |cons e es=>
  obtain⟨cs,r,u⟩:=h e (dh ..);refine⟨1::List.replicate es.length 0,Y,⟨0,by simpa using n.2⟩,u.congr fun t=>?_⟩;have:∀es:List (Int→Int),kW (List.replicate es.length 0) es t=0:=by
   intro es;induction es with
   |nil=>rfl
   |cons x es I=>simp only[kO,List.replicate_succ,kW,I];simp
  show 1*e t+kW (List.replicate es.length 0) es t=e t-kW cs [] t;rw[this];cases cs<;>simp[kW]
|k+1,B,es,g,q,s,h=>by
 have D:B≠ []:=by intro e;subst e;simp at q
 obtain⟨d,b,rfl⟩:∃d b,B=d++[b]:=⟨B.dropLast,B.getLast D,(MX D).symm⟩;have j:d.length=k:=by simpa using q
 have l:∀x,x∈d→Po x:=fun x v=>g x (yu _ v);have E:Po b:=g b Y;by_cases F:∀e,e∈es→dO p d e;exact dep C n k d es l j o F;obtain⟨e,he,y⟩:∃e,e∈es∧¬dO p d e:=kQ fun hc=>F fun e he=>kQ fun y=>hc ⟨e,he,y⟩;obtain⟨c,hc⟩:=(h e he).GI;have K:¬(p:Int)∣c:=fun L=>y (hc.alike ((Zm.of_dvd E L).congr fun t=>o));obtain⟨c',w,hw⟩:=n.inv o K;obtain⟨a,m,rfl⟩:=FX he;obtain⟨M,r,u,N⟩:=an6 (p:=p) (B:=d) (e:=e) (a++m) (fun x v=>by(have z:x∈a++e::m:=by rcases fo.1 v with h|h;exact yu _ h;exact Gt _ (eh _ h));obtain⟨f,O⟩:=(h x z).GI;refine⟨f*c',(O.comb hc (f*c')).alike ((Zm.of_dvd (E.aO f) (c:=c*c' -1) ⟨w,hw⟩).neg.congr fun t=>?_)⟩;show x t-f*c'*e t-(x t-f*b t-f*c'*(e t-c*b t))=-((c*c' -1)*(f*b t));simp only[rZ];omega);simp only[ri,kO]at s;obtain⟨ds,G,⟨i,H⟩,P⟩:=dep C n k d M l j (by rw[r,ri];omega) u;obtain⟨μ,Q⟩:=N ds (by rw[G,r]);have hlen:ds.length=a.length+m.length:=by rw[G,r,ri]
 have A:(ds.take a.length).length=a.length:=mI;refine⟨ds.take a.length++(-μ)::ds.drop a.length,aZ,?_,P.congr fun t=>?_⟩;rcases aX i a.length with hi|hi;refine⟨i,?_⟩;rw[List.getD,eo o,mP hi];exact H;refine⟨i+1,?_⟩;rw[List.getD,iN o,A,show i+1-a.length=(i-a.length)+1 by omega,aff,rk,show a.length+(i-a.length)=i by omega];exact H;rw[Q,Ga _ _ _ _ t A];have:=Ga (ds.take a.length) (ds.drop a.length) a m t A;rw[xT]at this;rw[this];show kW (ds.take a.length) a t+(-μ*e t+kW (ds.drop a.length) m t)=_;rw[jk];omega
def JH{p:Nat}{u:Int→Int}:∀(ds:ae) (es:List (Int→Int)),(∀(i:Nat)(e:Int→Int),es[i]?=some e→Di p u e)→Di p u (kW ds es)
| [],es,_=>Di.mR (Zm.aq _ fun t=>by cases es<;>simp[kW])
|d::ds,[],_=>Di.mR (Zm.aq _ fun t=>GP)
|d::ds,e::es,h=>((h 0 e rfl).mul (Po.const d)).add (JH ds es fun i a he=>h (i+1) a M3)
def EF{p:Nat}{u:Int→Int}:∀(ds:ae) (es:List (Int→Int)) (j:Nat),ds.length=es.length→(∀(i:Nat)(e:Int→Int),es[i]?=some e→Di p u (fun t=>e t-if i=j then 1 else 0))→Di p u (fun t=>kW ds es t-ds.getD j 0)
| [],es,j,h,_=>Di.mR (Zm.aq _ fun t=>by cases es<;>simp[kW])
|d::ds,[],j,h,_=>cT
|d::ds,e::es,0,h,a=>by have b:=a 0 e rfl;have c:=JH (p:=p) (u:=u) ds es fun i f he=>(a (i+1) f M3).alike (Zm.aq _ fun t=>by rw[U o];omega);refine((b.mul (Po.const d)).add c).alike (Zm.aq _ fun t=>?_);show d*e t+kW ds es t-d-(d*(e t-if 0=0 then 1 else 0)+kW ds es t)=0;rw[V rfl,ek];omega
|d::ds,e::es,j+1,h,a=>by have b:=a 0 e rfl;have c:=EF (p:=p) (u:=u) ds es j dN fun i f he=>(a (i+1) f M3).alike (Zm.aq _ fun t=>by by_cases g:i=j;rw[V g,V o];omega;rw[U g,U o];omega);refine((b.mul (Po.const d)).add c).alike (Zm.aq _ fun t=>?_);show d*e t+kW ds es t-ds.getD j 0-(d*(e t-if 0=j+1 then 1 else 0)+(kW ds es t-ds.getD j 0))=0;rw[U o,pq];omega
def zY{P:Nat→(Int→Int)→Prop}:∀N,(∀i,i<N→∃e,P i e)→∃es:List (Int→Int),es.length=N∧∀(i:Nat)(e:Int→Int),es[i]?=some e→P i e
|0,_=>⟨[],rfl,fun i e h=>cT⟩
|N+1,h=>by obtain⟨es,h1,b⟩:=zY N fun i hi=>h i o;obtain⟨e,c⟩:=h N o;refine⟨es++[e],oM,fun i a he=>?_⟩;rcases aX i es.length with hi|hi;rw[eo hi]at he;exact b i a he;rw[iN hi]at he;(have:i-es.length=0:=by rcases j5 (i-es.length)with h|h;exact h;rw[dF aZ]at he;cases he);rw[this]at he;obtain rfl:e=a:=M3;rwa[show i=N by omega]
def lQ:∀(a b:List (Int→Int)) (t:Int),pA (a++b) t=pA a t*pA b t
| [],b,t=>Fz
|x::a,b,t=>by show x t*pA (a++b) t=x t*pA a t*pA b t;rw[lQ a b t,bB]
def Pm{m:Int}:∀(L:List (Int→Int)) (u:Int→Int),(∀g,g∈L→Po g)→u∈L→Di m u (pA L)
| [],u,_,h=>ji
|g::L,u,a,h=>by have b:∀g,g∈L→Po g:=fun x c=>a x (eh _ c);rcases ep.1 h with rfl|h;exact Di.of_eq (ke L b) fun _=>rfl;exact((Pm L u b h).mul (a g (dh ..))).alike (Zm.aq _ fun t=>by show g t*pA L t-g t*pA L t=0;omega)
def count{p n:Nat}(s:2≤p)(k:cq (p:Int)){f:Int→Int}(A:Dm p n f)(C:Sq p f){B:List (Int→Int)}(l:∀b,b∈B→Po b)(D:Jm p n f B){U:List (Int→Int)}{c:Int}(d:∀u,u∈U→Po u)(E:∀u,u∈U→¬Dm p 0 u)(hc:¬(p:Int)∣c)(F:Zm p (fun t=>f t-c*pA U t)):U.length≤B.length:=by refine kQ fun L=>?_;obtain⟨es,M,v⟩:=zY (P:=fun i e=>dO p B e∧∀(j:Nat)(u:Int→Int),U[j]?=some u→Di p u (fun t=>e t-if i=j then 1 else 0)) U.length (fun i hi=>by have m:U=U.take i++U[i]::U.drop (i+1):=Y;(have w:∀x,x∈U.take i++U.drop (i+1)→x∈U:=by intro x a;rcases fo.1 a with h|h;exact s8 h;exact Ia h);have G:Po (pA (U.take i++U.drop (i+1))):=ke _ fun x a=>d x (w x a);(have q:Zm p (fun t=>f t-c*(pA (U.take i++U.drop (i+1)) t*U[i] t)):=F.congr fun t=>by(have:pA U t=pA (U.take i++U.drop (i+1)) t*U[i] t:=by(conv=>lhs;rw[m]);rw[lQ,lQ];show pA (U.take i) t*(U[i] t*pA (U.drop (i+1)) t)=_;simp only[rZ]);rw[this]);obtain⟨e,g1,g2,g3,g4⟩:=apart s k A C D G (d _ (jl hi)) hc q;refine⟨e,g4,fun j u hu=>?_⟩;by_cases y:i=j;subst y;rw[cj hi]at hu;(obtain rfl:U[i]=u:=by simpa using hu);exact g3.alike (Zm.aq _ fun t=>by rw[V rfl];omega);(have g:j<U.length:=by rcases aX j U.length with h|h;exact h;rw[dF h]at hu;cases hu);(have r:u∈U.take i++U.drop (i+1):=by rcases aX j i with h|h;refine yu _ (cN (i:=j) ?_);rw[mP h];exact hu;refine Gt _ (cN (i:=j-(i+1)) ?_);rw[rk,show i+1+(j-(i+1))=j by omega];exact hu);refine((Pm _ u (fun x a=>d x (w x a)) r).trans g2).alike (Zm.aq _ fun t=>?_);rw[az y];omega);obtain⟨ds,H,⟨j,z⟩,I⟩:=dep s k B.length B es l rfl o (fun e he=>by obtain⟨i,hi⟩:=vA he;exact(v i e hi).1);(have g:j<U.length:=by rcases aX j U.length with h|h;exact h;exact absurd (by rw[au o];exact WD _) z);have K:=EF (p:=p) (u:=U[j]) ds es j H fun i e he=>(v i e he).2 j U[j] (cj g);refine z (kP k (d _ (jl g)) (E _ (jl g)) ?_);exact((Di.mR I).sub K).alike (Zm.aq _ fun t=>o)
def Nl{p n:Nat}(F:2≤p)(q:cq (p:Int)){f:Int→Int}(y:Dm p n f)(G:Sq p f){B:List (Int→Int)}(s:∀b,b∈B→Po b)(H:Jm p n f B){U:List (Int→Int)}{c:Int}(r:∀u,u∈U→Po u)(z:∀u,u∈U→¬Dm p 0 u)(hc:¬(p:Int)∣c)(A:Zm p (fun t=>f t-c*pA U t))(I:B.length≤U.length):∀u,u∈U→qU p u:=by
 intro u hu;refine kQ fun hi=>?_;obtain⟨d,g,rfl⟩:=FX hu;have m:=r u hu;have C:∀t,pA (d++u::g) t=u t*(pA d t*pA g t):=fun t=>by rw[lQ];show pA d t*(u t*pA g t)=_;rw[gy]
 have v:Po (pA d):=ke d fun x j=>r x (yu _ j);have l:Po (pA g):=ke g fun x j=>r x (Gt _ (eh _ j));have w:¬Zm p u:=fun h=>y.not ((A.add ((h.mul (v.mul l)).aO c)).congr fun t=>by rw[C,bm (u t)];omega);obtain⟨a,b,k,K,L,M,N,O,P⟩:=Pu m w (z u hu) hi;obtain⟨i,e,D⟩:=q.inv o M;have Q:¬(p:Int)∣i:=fun h=>q.2 (by have:=oZ (gH h (oL k i)) ⟨e,D⟩;rwa[show k*i-(k*i-1)=1 by omega]at this);have E:∀x,x∈d++a::b::g→x∈d++u::g∨x=a∨x=b:=by intro x j;rcases fo.1 j with h|h;exact Or.inl (yu _ h);rcases ep.1 h with h|h;exact Or.inr (Or.inl h);rcases ep.1 h with h|h;exact Or.inr (Or.inr h);exact Or.inl (Gt _ (eh _ h))
 have:=count F q y G s H (U:=d++a::b::g) (c:=c*i) (fun x j=>by
  rcases E x j with h|rfl|rfl;exact r x h;exact K
  ·exact L) (fun x j=>by
  rcases E x j with h|rfl|rfl;exact z x h;exact O
  ·exact P) (q.mul hc Q) (by
  refine((A.add ((N.mul (v.mul l)).aO (c*i))).sub (Zm.of_dvd ((m.mul (v.mul l)).aO c) (c:=k*i-1) ⟨e,D⟩)).congr fun t=>?_;rw[C,lQ];show f t-c*i*(pA d t*(a t*(b t*pA g t)))=f t-c*(u t*(pA d t*pA g t))+c*i*(pA d t*pA g t*(k*u t-a t*b t))-(k*i-1)*(c*(u t*(pA d t*pA g t)));simp only[rZ];omega)
 simp only[ri,kO]at this I;omega
end Go.Proofs.YtldcjkhbiffdoaaGreatDoor
