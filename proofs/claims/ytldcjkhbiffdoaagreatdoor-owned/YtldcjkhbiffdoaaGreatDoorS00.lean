import Derived.ArgAppend
import Derived.BigQuiet
import Derived.BigRegion
import Derived.Deep.CutBlock
import Derived.Deep.CutRange
import Derived.Deep.DeepCutAuto
import Derived.Deep.QuietTactic
import Derived.Deep.RegionHeld3
import Derived.Deep.RegionLaw
import Derived.Deep.RegionWith
import Derived.Deep.Slices
import Derived.LaidMore
import Derived.Laws.AppendOwnNone
import Derived.Laws.Concat
import Derived.Laws.CopyOwn
import Derived.Laws.IdiomStrings
import Derived.Laws.RangeString
import Derived.Lib.ItoaNum
import Derived.Lib.LaidTab
import Derived.Maps.AppendAt
import Derived.OpenShut
import Derived.OwnWalk
import Derived.ProofKit
import Derived.SevenTiedAt
import Derived.Shelf.LaysM
import Derived.Shelf.Strconv.Itoa0
import Derived.Shelf.Strconv.Itoa1
import Derived.Shelf.Strconv.Itoa2
import Derived.Shelf.Strconv.Itoa3
import Derived.Shelf.Strconv.Itoa4
import Derived.ShutString
import Derived.Stop.Joined
import Derived.WalkKit
import Derived.WalkLawsBesides
import Derived.WalkSpells
import Derived.WideKeyArgs
set_option maxRecDepth 100000
set_option maxHeartbeats 40000000
set_option linter.unusedSimpArgs false
set_option linter.defProp false
namespace Go.Proofs.Tryz
end Go.Proofs.Tryz
namespace Go.RowKit
def Below.tr{a b c:World}(h:Below a.heap.size a b)(k:Below b.heap.size b c):Below a.heap.size a c:=h.trans (k.mono h.size)
abbrev ae:=List Int
def Hid.O{p:Prop}(h:Hid p):p:=h
end Go.RowKit
namespace Go.Proofs.YtldcjkhbiffdoaaGreatDoor
open Go.RowKit
def al:=@Nat.le_refl
def cj:=@List.getElem?_eq_getElem
def bR:=@List.length_pos_iff
def aL:=@Go.RowKit.Below.refl
def az:=@if_neg
def aU:=@Nat.zero_le
def bm:=@Int.mul_comm
def bB:=@Int.mul_assoc
def aA:=@if_pos
def eh:=@List.mem_cons_of_mem
def cI:=@Nat.pow_le_pow_right
def cN:=@List.mem_of_getElem?
def aW:=@Nat.le_trans
def aX:=@Nat.lt_or_ge
def eo:=@List.getElem?_append_left
def dF:=@List.getElem?_eq_none
def eQ:=@List.getElem?_eq_some_iff
def dh:=@List.mem_cons_self
def dy:=@Nat.lt_of_lt_of_le
def gf:=@Array.getElem?_eq_some_iff
def cY:=@List.take_length
def bw:=@Go.lt_of_block
def bX:=@Go.AllReadyH.nil
def d_:=@Go.wp_region_held_drew
def j4:=@List.take_succ_eq_append_getElem
def gV:=@List.drop_eq_getElem_cons
def bW:=@Int.pow_succ
def dw:=@Option.some.inj
def iN:=@List.getElem?_append_right
def cE:=@Go.bodyPost_ret
def dt:=@Nat.mul_le_mul
def ij:=@List.length_eq_zero_iff
def gT:=@List.take_of_length_le
def e9:=@Go.RowKit.Below.heap_setCell
def fe:=@Nat.lt_of_le_of_lt
def jV:=@List.getD_eq_getElem?_getD
def l_:=@Int.mul_le_mul_of_nonneg_right
def gD:=@beq_eq_false_iff_ne
def kQ:=@Classical.byContradiction
def mQ:=@Int.mul_le_mul_of_nonneg_left
def c_:=@Int.add_mul
def iK:=@Go.World.ownsRow.stored
def du:=@Nat.pow_pos
def gy:=@Int.mul_left_comm
def gI:=@Go.heap_setCell_same
def ep:=@List.mem_cons
def dE:=@Int.mul_add
def fo:=@List.mem_append
def fu:=@decide_eq_false
def ik:=@Int.emod_lt_of_pos
def eX:=@Int.natAbs_mul
def kh:=@Nat.mul_le_mul_right
def eC:=@Int.le_of_lt
def mP:=@List.getElem?_take_of_lt
def fO:=@Int.mul_nonneg
def fL:=@Go.heap_alloc_new
def fR:=@decide_eq_true
def gu:=@Int.emod_nonneg
def ek:=@Int.mul_sub
def jZ:=@congrArg
def j5:=@Nat.eq_zero_or_pos
def jD:=@Go.Value.slice.injEq
def eH:=@Go.wpAnyH_done
def e_:=@Nat.pow_succ
def jl:=@List.getElem_mem
def jB:=@Go.World.ownsRow.lt
def gH:=@Int.dvd_trans
def lu:=@Nat.add_sub_cancel
def nU:=@UInt8.le_iff_toNat_le
def mv:=@Int.natAbs_natCast
def kO:=@List.length_cons
def oq:=@Go.World.ownsRow.alloc
def Cs:=@Int.eq_zero_of_dvd_of_natAbs_lt_natAbs
def kI:=@Int.natCast_mul
def fS:=@Go.info_parts
def mN:=@List.length_take
def im:=@Int.sub_mul
def jw:=@Int.mul_zero
def rP:=@List.getElem?_set_ne
def mT:=@List.length_map
def jk:=@Int.neg_mul
def jU:=@Nat.le_of_lt
def ko:=@List.mem_map
def tK:=@Go.ownsRow_setCell_other
def sS:=@Int.mul_ediv_add_emod
def og:=@UInt8.toNat_inj
def oL:=@Int.dvd_mul_left
def pO:=@Int.dvd_mul_right
def Bg:=@List.eq_nil_of_length_eq_zero
def lr:=@Int.zero_mul
def kJ:=@Int.mul_one
def kT:=@Int.mul_neg
def vA:=@List.getElem?_of_mem
def xT:=@List.take_append_drop
def lC:=@Int.one_mul
def vk:=@Go.World.grownBy_alloc
def lG:=@Int.pow_one
def rR:=@List.length_drop
def rW:=@Nat.lt_succ_self
def zM:=@Int.natCast_dvd_natCast
def nL:=@List.take_add_one
def rH:=@Go.Lib.decDigits_length
def iF:=@Int.pow_add
def iE:=@Nat.pow_add
def tM:=@List.getElem?_set_self
def lJ:=@List.drop_zero
def pt:=@Go.wpList_append_own
def js:=@Int.dvd_add
def vG:=@List.getElem?_replicate
def yp:=@Int.tmod_eq_emod_of_nonneg
def yy:=@Int.tdiv_eq_ediv_of_nonneg
def ri:=@List.length_append
def s8:=@List.mem_of_mem_take
def rk:=@List.getElem?_drop
def rD:=@decide_eq_true_iff
def vZ:=@List.drop_of_length_le
def pL:=@Bool.and_eq_true
def zo:=@Int.eq_of_mul_eq_mul_left
def sW:=@List.getD_cons_succ
def q_:=@List.getElem?_map
def ky:=@Int.pow_pos
def rp:=@List.map_append
def yA:=@Go.World.cell?_alloc_past
def h_:=@true_and
def nY:=@Int.add_zero
def sF:=@List.all_eq_true
def nN:=@Nat.succ_mul
def nS:=@Int.lt_or_le
def nQ:=@Int.dvd_refl
def sL:=@Nat.zero_testBit
def pK:=@List.map_cons
def yu:=@List.mem_append_left
def rB:=@Int.mul_le_mul
def Hg:=@Array.getElem?_setIfInBounds
def vU:=@Int.natAbs_add_le
def tU:=@List.append_nil
def tN:=@Int.mul_ne_zero
def pH:=@Nat.zero_add
def pq:=@Int.sub_zero
def rM:=@Nat.add_assoc
def F_:=@List.setIfInBounds_toArray
def wm:=@Nat.mod_eq_of_lt
def v_:=@Int.natCast_zero
def tu:=@List.take_zero
def oZ:=@Int.dvd_sub
def rG:=@Nat.ne_of_gt
def rA:=@Nat.ne_of_lt
def vM:=@List.length_set
def vW:=@List.foldl_cons
def yK:=@Go.Lib.decDigits_one
def yC:=@List.append_assoc
def zk:=@of_decide_eq_true
def te:=@Nat.le_of_dvd
def MN:=@Go.returnsInHanded_of_change_and
def C1:=@List.take_succ_cons
def zq:=@List.cons_append
def MX:=@List.dropLast_concat_getLast
def yM:=@Nat.le_of_not_lt
def y_:=@Go.IntKind.wrap_i64
def vI:=@Go.AllReadyH.cons
def yR:=@List.drop_length
def rL:=@Go.below_drewN
def BT:=@List.set_cons_succ
def A9:=@List.mem_singleton
def BX:=@Int.ofNat_dvd_left
def CK:=@List.filter_append
def ze:=@Int.ediv_nonneg
def Gt:=@List.mem_append_right
def No:=@Go.Claim7.holds_tied_plain_at
def Dk:=@Go.World.ownsRow_nil
def C0:=@List.foldl_append
def Ia:=@List.mem_of_mem_drop
def FD:=@List.replicate_succ'
def F7:=@Go.World.ownsRow.cellAt
def NI:=@List.pairwise_iff_getElem
def Mh:=@Go.ChangeSpec.witness_shaped
def vR:=@Go.cell_two_new
def vS:=@Int.zero_dvd
def Gp:=@Nat.mul_le_mul_left
def GH:=@Go.Calls.quiet_of_same
def Hv:=@List.drop_succ_cons
def Mn:=@Go.OpenClaim.holds_of_wide
def Hf:=@Go.World.ownsRow_made
def BI:=@List.any_append
def AZ:=@Nat.testBit_and
def FX:=@List.append_of_mem
def H9:=@Go.Lib.nDigits_small
def FL:=@Go.World.ownsRow_lit
def NF:=@Go.RowKit.ownsRow_setCell_below
def yw:=@Int.zero_add
def yN:=@Nat.sub_zero
def Ca:=@List.mem_range
def Wk:=@Nat.testBit_two_pow_sub_succ
def yi:=@Int.le_trans
def NV:=@Array.mem_of_getElem?
def V9:=@Int.mul_lt_mul_of_pos_right
def YH:=@Nat.mul_lt_mul_of_pos_right
def Fu:=@Go.wpList_make_full
def GG:=@Nat.mul_lt_mul''
def F2:=@decide_eq_decide
def Mt:=@Go.wpList_append_own_at
def M1:=@Nat.eq_of_testBit_eq
def LW:=@BitVec.ofInt_natCast
def Nw:=@Go.World.shaped_of_RefB
def zd:=@Go.rounds_succ
def yQ:=@Nat.mul_add
def FR:=@Nat.min_eq_left
def Gl:=@Int.natCast_pow
def MO:=@List.range_succ
def Hi:=@Int.mul_eq_zero
def Nq:=@Go.Lib.lt_pow_nDigits
def Bc:=@Nat.mul_comm
def C7:=@Nat.sub_self
def NW:=@List.set_cons_zero
def LC:=@List.pairwise_cons
def MS:=@BitVec.toNat_ofNat
def FI:=@Go.wp_loop_rounds
def Gi:=@Go.getD_set_ne
def Wi:=@Nat.le_mul_of_pos_right
def Mo:=@Nat.lt_trichotomy
def agw:=@Int.mul_nonneg_of_nonpos_of_nonpos
def BV:=@Int.mul_pos
def YE:=@Nat.le_mul_of_pos_left
def TV:=@ByteArray.data_extract
def CN:=@Int.dvd_neg
def Xj:=@List.getElem?_zipWith
def Wr:=@List.length_filter_le
def Yw:=@Go.World.cell?_of_block
def GJ:=@Nat.mul_zero
def MD:=@Int.natCast_add
def S5:=@Nat.pow_le_pow_left
def We:=@Array.length_toList
def UL:=@List.getD_cons_zero
def L_:=@List.foldl_nil
def NZ:=@Go.DataW.trod_int
def Fp:=@Nat.mul_one
def FG:=@Go.wpQuiet_nil
def GX:=@Int.mul_pow
def Vq:=@Int.lt_or_lt_of_ne
def VA:=@Go.World.ownsRow.kept
def aha:=@Int.add_mul_emod_self_left
def Ub:=@List.reverse_cons
def XV:=@Nat.or_lt_two_pow
def S_:=@decide_eq_true_eq
def XY:=@List.flatten_cons
def Xg:=@List.any_eq_false
def agS:=@Int.le_of_mul_le_mul_left
def afA:=@Nat.add_mul_mod_self_left
def afi:=@Array.getElem?_eq_getElem
def Wz:=@List.ext_getElem
def M4:=@Int.neg_tmod
def LX:=@Nat.add_zero
def NA:=@List.map_nil
def ML:=@Int.add_comm
def LM:=@Int.sub_self
def ahf:=@Int.mul_tdiv_cancel_left
def agr:=@Go.World.block_lt_of_cell?
def ahh:=@Int.dvd_of_emod_eq_zero
def aff:=@List.getElem?_cons_succ
def ag9:=@Int.emod_eq_zero_of_dvd
def Wg:=@Nat.div_le_self
def Te:=@Nat.gcd_le_left
def XI:=@Int.natAbs_tmod
def TA:=@Int.pow_ne_zero
def U3:=@List.mem_filter
def TO:=@Int.natCast_one
def Vj:=@List.nil_append
def aeH:=@List.drop_eq_nil_of_le
def aeP:=@Array.getElem?_eq_none
def ahL:=@Go.DataW.weights_mem_each
def agT:=@Nat.mod_eq_zero_of_dvd
def afD:=@List.zipWith_cons_cons
def Nz:=@Nat.add_mul
def ae9:=@List.filter_eq_nil_iff
def aeQ:=@Int.emod_add_mul_ediv
def aeX:=@Int.mul_tdiv_add_tmod
def aez:=@List.singleton_append
def af4:=@Classical.choose_spec
def ah4:=@Int.ediv_lt_of_lt_mul
def WJ:=@Nat.testBit_or
def UX:=@Go.run_append_own
def U8:=@Go.run_next_ascii
def WL:=@List.map_take
def XK:=@Go.wp_append_own
def UF:=@Bool.or_false
def Wq:=@Int.neg_tdiv
def WD:=@Int.dvd_zero
def Ns:=@Go.mem_ready
def o{P:Prop}(h:P:=by omega):P:=h
def Z:=@Nat.le_refl
def Y{P:Prop}(h:P:=by simp):P:=h
def U:=@if_neg
def V:=@if_pos
def J{P:Prop}(h:P:=by decide):P:=h
def T1{P:Prop}(h:P:=by
 rw[←wx.O]at ie;go_loopw [8,9] (fun r i wr=>∃(k:Nat)(rl P:ae),i=.int .i64 ((k:Int)-1)∧k≤N∧MT wr r rl∧rl.length≤b.length∧(k<N→Row wr r rl∧rl.length=b.length)∧P.length=N∧wr.ownsRow w.heap.size 2 1 (.slice (some ⟨w.heap.size,0,none⟩) N N) N (P.map (Value.int .i64))∧Hid (Jq a b P rl k)∧Below w.heap.size w wr) (fun _ i _=>(intOf i+1).toNat);case atStart=>exact⟨N,a.drop N,P0,rfl,al _,Q5,VX,fun h=>absurd h (Nat.lt_irrefl _),Lh,cH,ie,ay⟩
 case round=>
  clear Q5 cH ay wx ie Lh;obtain⟨k,rl,P,rfl,hk,hr,Ll,hrR,hP,aj,HI,af⟩:=hrel;cases k with
  |zero=>have hI:=HI.O;unfold Jq at hI;rw[lJ,lJ]at hI;have Sk:Hid _:=hI;have e7:=(xu aj hP).row;have hrR:=hrR ab;clear hI HI;go_wp2;go_ret2;refine⟨_,_,rfl,?_,af⟩;rw[HT.O];exact⟨P,rl,e7,hrR.1,Sk.O.1,Sk.O.2.1,ab,hrR.2,Sk.O.2.2.1,Sk.O.2.2.2⟩
  |succ j=>clear hrR;rw[show(((j+1:Nat):Int)-1)=(j:Int) by omega];obtain⟨g',oC,_,_,_,aY⟩:=hu.at j ab;simp at oC;subst oC;have Hz:wr.cell? ⟨ga,j,none⟩=some (.int .i64 (a.getD j 0)):=(af.cell (p:=⟨ga,j,none⟩) hga).trans aY;have Jv:=bj.getD ab da j;obtain⟨x,HX⟩:∃x,Hid (a.getD j 0=x):=⟨_,rfl⟩;rw[HX.O]at Hz Jv;have Pb:=HI.O.2.1;have hq:=ZY vN (dJ ab Pb) HI.O.2.2.2 Jv.1 Jv.2;(have dlo:bj 1000000000 (x::rl):=fun y hy=>by rcases ep.1 hy with h|h;rw[h];exact Jv;exact Pb y h);have Ki:=aas (a:=x::rl) dlo db aB tb aZ hq.1 hq.2.1 hq.2.2.1;have hgn:=PQ (a:=x::rl) (b:=b) dlo;have jn:=fun(q:Int) (s:ae) (h0:0≤q) (h1:q<1000000000) (ds:bj 1000000000 s) (hs:ev 1000000000 s=ev 1000000000 (x::rl)-q*ev 1000000000 b) (aM:ev 1000000000 (x::rl)<q*ev 1000000000 b+ev 1000000000 b)=>Jq.next HI.O (show j<a.length by omega) (show j<P.length by omega) HX.O h0 h1 ds hs aM;have nZ:Hid _:=jn;obtain⟨d,HDd⟩:∃d,Hid (qd b rl x=d):=⟨_,rfl⟩;rw[HDd.O]at hq Ki;have HQ:Hid _:=hq.2.2;have AE:=hq.1;have my:=hq.2.1;have hWL:=Bt rl x _ wr hr ab;obtain⟨ra,rc,rfl,_⟩:=id hr;clear jn hq aY HX HDd HI;go_wp2_with fail;refine hWL.mono ?_;rintro e w2 ⟨v2,rfl,dD,aC⟩;have tH:=dD.row;obtain⟨ya,yc,rfl⟩:=tH.val;have cR:=af.tr aC;go_wp2_with fail;refine(Ru (x::rl) b _ _ w2 tH (hv.E cR) aZ ab aB dlo db).mono ?_;rintro e w3 ⟨rfl,rfl⟩;generalize gs (x::rl) b=gg at*;go_wp2_with fail;refine(vr (x::rl) b gg _ _ w3 tH (hv.E cR) aZ ab dlo db hgn Ki.2).mono ?_;rintro e w4 ⟨v4,s4,en4,rfl,cS,Uj,bU⟩;have alp:=cS.row;have ajN:=Ki.1;have aoO:=Ki.2;go_wp2_with fail;have Dz:∃wo:World,wo=wr:=⟨_,rfl⟩;obtain⟨wo,rfl⟩:=Dz;go_loopw [11,12,13] (fun l lf en wq=>∃(q:Int)(s:ae)(e':Bool),l=.int .i64 q∧en=.bool e'∧d≤q∧0≤q∧q<1000000000∧Own w3.heap.size wq lf s∧Hid (an9 (x::rl) b q s e')∧Below w3.heap.size w3 wq) (fun l _ _ _=>(intOf l).toNat);(case atStart=>exact⟨gg,s4,en4,rfl,rfl,ajN,hgn,aoO,cS,Uj,bU⟩);case round=>clear alp Uj bU cS Ki ajN aoO hgn hWL;obtain⟨q,s,e',rfl,rfl,Zv,ti,rJ,hos,HL,jo⟩:=hrel;have XC:=hos.row;obtain⟨sa,sc,rfl⟩:=XC.val;have ajI:Below wo.heap.size wo wr:=aC.tr jo;have ag6:=af.tr ajI;obtain⟨qF,dss,bo,hle,hen⟩:=HL.O;have EV:=JD ab qF dss hle;(have ahc:(e'=true↔q*ev 1000000000 b≤ev 1000000000 (x::rl)):=by rw[hen,rD];exact EV.1);(have hup:q*ev 1000000000 b≤ev 1000000000 (x::rl)→q=d:=by intro h;have h1:=HQ.O.2;rcases nS d q with h2|h2;have:=l_ (show d+1≤q by omega) (eC vN);rw[c_,lC]at this;omega;omega);(have aea:q=d→Jq a b (P.set j q) s j:=by intro h;subst h;exact nZ.O q s ti rJ dss (EV.2 HQ.O.1 HQ.O.2 db) HQ.O.2);(have acW:e'=false→d≤q-1:=by intro h;rcases nS d q with h2|h2;omega;(obtain rfl:q=d:=by omega);rw[ahc.2 HQ.O.1]at h;cases h);have D5:=NY aj ajI;have wC:=D5.frozenAt j;(have Eh:wr.cell? ⟨w.heap.size,j,none⟩=some (.int .i64 (P.getD j 0)):=by rw[D5.cellAt j ab];simp[List.getD,show j<P.length by omega]);generalize P.getD j 0=p at Eh;have fh:=(iK (w:=wr) D5 j (.int .i64 q)).1;rw[map_set]at fh;have ie:Hid _:=fh;have acE:Row (wr.setCell ⟨w.heap.size,j,none⟩ (.int .i64 q)) (.slice sa s.length sc) s:=Own.row (NF (a:=⟨w.heap.size,j,none⟩) hos (dy (jB aj _ rfl).2 aC.size) _);have Oz:Hid _:=acE;(have ach:(e'=true∨q=0)→q=d:=by rintro(h|h);exact hup (ahc.1 h);omega);have RP:Hid _:=fun h=>aea (ach h);have HDW:Hid _:=acW;clear fh acE hos aea hup ahc EV hle hen ach acW HL;(have et:(e'=false∧0<q)∨(e'=true∨(e'=false∧q=0)):=by cases e';rcases(show 0<q∨q=0 by omega)with h|h;exact .inl ⟨rfl,h⟩;exact .inr (.inr ⟨rfl,h⟩);exact .inr (.inl rfl));rcases et with⟨rfl,hqp⟩|(rfl|⟨rfl,rfl⟩);(·have nC:=HDW.O rfl;have hLT:=vr (x::rl) b (q-1) (.slice ya (x::rl).length yc) (.slice va b.length vc) wr (tH.E jo) (hv.E ag6) aZ ab dlo db ab ab;clear ie Oz RP HDW wC Eh D5;go_wp2_with fail;refine hLT.mono ?_;rintro e w6 ⟨v6,s6,en6,rfl,bG,hL6,bt⟩;have aAk:=bG.row;go_wp2;go_roundw;(case rel=>exact⟨q-1,s6,en6,rfl,rfl,nC,ab,ab,Own.mono bG jo.size,hL6,jo.tr bt⟩);case measure=>simp[intOf];omega);(·have Sk:Hid _:=RP.O (.inl rfl);clear RP HDW;by_cases hqp:0<q;all_goals go_wp2;go_roundw;(case rel=>exact⟨j,s,P.set j q,by go_num,ab,Row.anv Oz.O,ab,fun _=>⟨Oz.O,qF⟩,Ea,ie.O,Sk,ag6.setCell (al _) _⟩);case measure=>simp[intOf]);·have Sk:Hid _:=RP.O (.inr rfl);clear RP HDW;go_wp2;go_roundw;(case rel=>exact⟨j,s,P.set j 0,by go_num,ab,Row.anv Oz.O,ab,fun _=>⟨Oz.O,qF⟩,Ea,ie.O,Sk,ag6.setCell (al _) _⟩);case measure=>simp[intOf]):P:=h
def T2{P:Prop}(h:P:=by
 have aGN:(Lib.decDigits j).length≤2:=anA;generalize gF z.natAbs j=tt at*;generalize uU j=vt at*;generalize Lib.decDigits z.natAbs=dz at*;generalize Lib.decDigits j=dj at*;generalize il (decide (z<0)) d.isEmpty=sg at*;have HS:Hid _:=hS;have HA:Hid _:=hA;have HT:Hid _:=hT;have HO:Hid _:=hO;have Ih:Hid _:=La;clear hS hA hT hO La JL HE HZ hjm vL;have hj:j=0∨j=1∨(1<j∧¬j=0):=ab;rcases hj with h0|h1|⟨h2,h3⟩;·rw[aA h0]at R3;subst R3;have hje:(j:Int)=0:=ab;subst h0;rcases zL with⟨rfl,rfl,rfl⟩|⟨rfl,rfl,rfl⟩|⟨hde,rfl,rfl⟩|⟨hde,rfl,rfl⟩;all_goals go_wp2_with fail;generalize hW:wr.alloc _=W1;obtain⟨aB,X0⟩:=aI hW;clear hW;refine(HS.O W1 (hI.E aB)).mono ?_;rintro e w1 ⟨rfl,ay⟩;have X1:=X0.E ay;have c0:=X1.c0;have c1:=X1.c1;have bC:=(hI.E aB).E ay;have g_:=af.trans ((aB.tr ay).mono af.size);go_wp2_with fail;refine(HA.O w1 bC).mono ?_;rintro e w4 ⟨v4,rfl,kC,bU⟩;go_wp2_with fail;refine(HT.O w4 v4 kC).mono ?_;rintro e w5 ⟨rfl,aV⟩;have fT:=(g_.tr bU).trans (aV.mono afR);go_wp2_with fail;go_roundw;(case rel=>exact⟨0,m+1,_,ab,rfl,Ty,ab,gR,fT⟩);case measure=>simp[intOf]
 rw[az ab]at R3;rw[az ab]at hvt;subst hvt;have hje:(j:Int)=1:=ab;by_cases my:dz=[49];rw[aA my]at R3;subst R3 my;exact ave;rw[az my]at R3;have Z7:(dz==[49])=false:=by simp[my]
 subst R3;exact ave;rw[az h3]at R3;rw[aA h2]at hvt;subst hvt;have hxe:(({data:=#[120,94]}:ByteArray)++{data:=dj.toArray}).toList.isEmpty=false:=by rw[show(({data:=#[120,94]}:ByteArray)++{data:=dj.toArray})=⟨([120,94]++dj).toArray⟩from iq [120,94] dj];simp
 by_cases my:dz=[49];rw[aA my]at R3;subst R3 my;exact T65;rw[az my]at R3;have Z7:(dz==[49])=false:=by simp[my]
 subst R3;exact T65):P:=h
def T3{P:Prop}(h:P:=by clear hk;exact T59):P:=h
def T4{P:Prop}(h:P:=by have hle:Y.length≤X.length:=ab;clear hA hB;have gR:=Ki.elim hF (bR.1 ab) hle;obtain⟨e,he,hx,hy⟩:=Ki.bd;have het:=JJ he;obtain⟨d,HDd⟩:∃d,Hid (X.length-Y.length=d):=⟨_,rfl⟩;have my:(X.length:Int)-Y.length+1=((d+1:Nat):Int):=Ev;have nC:(X.length:Int)-Y.length=(d:Int):=Ev;have hd3:d≤11:=Ev;obtain⟨g1,b1',x1a,x1n,x1c,rfl,eL,ff,mB,_,p0,p1,bC⟩:=ah.at hX (X.length-1) ab;obtain⟨g2,b2',y1a,y1n,y1c,rfl,hd4,hd5,zE,_,p2,p3,cJ⟩:=ah.at hY (Y.length-1) ab;rw[show X.getD (X.length-1) 0=lead X from rfl]at bC;rw[show Y.getD (Y.length-1) 0=lead Y from rfl]at cJ;obtain⟨m1,HM1⟩:∃m,Hid (X.length-1=m):=⟨_,rfl⟩;obtain⟨m2,G_⟩:∃m,Hid (Y.length-1=m):=⟨_,rfl⟩;rw[HM1.O]at p0 p1;rw[G_.O]at p2 p3;have Il:(X.length:Int)-1=m1:=MU;have KR:(Y.length:Int)-1=m2:=I7;have hm3:m1<X.length:=MU;have hm4:m2<Y.length:=I7;have vC:=Qj X Y;rw[HDd.O]at vC;have IJ:=fun(W:World) (u1 u2:Value) (g1:aR W u1 X) (g2:aR W u2 [lead Y])=>jy X [lead Y] e e u1 u2 W g1 g2 ab ax hx (Bd.one hy.lead) ab;have Ej:=fun(W:World) (u1 u2:Value) (g1:aR W u1 (mono d (lead X))) (g2:aR W u2 Y)=>jy (mono d (lead X)) Y e e u1 u2 W g1 g2 Bq ab (Bd.aku hx.lead) hy ab;have bS:Bd (cL X [lead Y]) (e+e):=hx.Lo hy.lead;have bT:Bd (cL (mono d (lead X)) Y) (e+e):=Bd.aad hx.lead hy;have lS:(cL X [lead Y]).length≤11:=aW (qo _ _) aZ;have lT:(cL (mono d (lead X)) Y).length≤30:=aW (qo _ _) Bq;have kR:=fun(W:World) (u1:Value) (g1:aR W u1 (cL (mono d (lead X)) Y))=>rC _ u1 W g1 ab (bT.k_ ab);have vQ:=fun(W:World) (u1 u2:Value) (g1:aR W u1 (cL X [lead Y])) (g2:aR W u2 ((cL (mono d (lead X)) Y).map fun z=>-z))=>ju _ _ u1 u2 W g1 g2 ab ah9 (bS.k_ ab) (bT.al7.k_ ab);rw[show tz (f_ (cL X [lead Y]) ((cL (mono d (lead X)) Y).map fun z=>-z) (max (cL X [lead Y]).length ((cL (mono d (lead X)) Y).map fun z=>-z).length))=elim X Y from vC]at vQ;have bE:Bd (elim X Y) (e+e+1):=hx.elim hy;have lE:=iI (show 0<Y.length by omega) hle;have ZC:=fun(W:World) (u1:Value) (g1:aR W u1 (elim X Y))=>uf (elim X Y) u1 W g1 ab (bE.k_ ab) (ir _ _);have atV:Hid _:=IJ;have awI:Hid _:=Ej;have lH:Hid _:=kR;have H8:Hid _:=vQ;have asn:Hid _:=ZC;have EG:Hid _:=gR;clear IJ Ej kR vQ ZC gR vC bS bT lS lT bE lE Ki he hx hy HGS;generalize cL X [lead Y]=PS at*;generalize cL (mono d (lead X)) Y=PT at*;generalize PT.map (fun z=>-z)=PM at*;generalize elim X Y=PE at*;go_wp2_with(at_make;refine rE rfl (.tmp 39) (.tmp 39) rfl _ _ (d+1) rfl rfl ab ab ab ?_);intro w7 xs7 HX7 eF dL;have q0:=(dL.cell (p:=⟨g1,m1*2,none⟩) mB).trans p0;have q1:=(dL.cell (p:=⟨g1,m1*2+1,none⟩) mB).trans p1;have q2:=(dL.cell (p:=⟨g2,m2*2,none⟩) zE).trans p2;have q3:=(dL.cell (p:=⟨g2,m2*2+1,none⟩) zE).trans p3;obtain⟨t0,t1⟩:=we HX7 eF (i:=d) ab;have t2:=eF.frozenAt (d*2);have t3:=eF.frozenAt (d*2+1);have amj:wr.heap.size≠g2:=ab;have aFH:g2≠wr.heap.size:=ab;have MM:=yY HX7 eF (bC.E dL);have Li:Hid _:=MM;clear MM;go_wp2_with fail;have MM:=Li.O;have hVs:((w7.setCell ⟨wr.heap.size,d*2,none⟩ (Value.bool b1')).setCell ⟨wr.heap.size,d*2+1,none⟩ (Value.slice x1a x1n x1c)).heap.size=w7.heap.size:=ax;generalize(w7.setCell ⟨wr.heap.size,d*2,none⟩ (Value.bool b1')).setCell ⟨wr.heap.size,d*2+1,none⟩ (Value.slice x1a x1n x1c)=V at*;obtain⟨hT,Sb⟩:=MM;have hbv:Below wr.heap.size wr V:=dL.trans Sb;clear Li q0 q1 q2 q3 t0 t1 t2 t3 eF HX7 Sb p0 p1 p2 p3;generalize hW8:V.alloc (Obj.cells #[.bool b2',.slice y1a y1n y1c] 74)=W8;obtain⟨iT,Sv⟩:=jW hW8 (cJ.E hbv);rw[hVs]at Sv;clear hW8;have qX:Below wr.heap.size wr W8:=hbv.trans (iT.mono (by have:=hbv.size;omega));refine(atV.O W8 _ _ (ah.E hX qX) Sv).mono ?_;rintro en w9 ⟨x9,rfl,uW,lZ⟩;obtain⟨a9,c9,rfl⟩:=ah.val uW;have oA:Below wr.heap.size wr w9:=qX.tr lZ;have hT9:=ah.E (ah.E hT iT) lZ;go_wp2_with fail;refine(awI.O w9 _ _ hT9 (ah.E hY oA)).mono ?_;rintro en uP ⟨x10,rfl,mF,fE⟩;obtain⟨a10,c10,rfl⟩:=ah.val mF;have zS:Below wr.heap.size wr uP:=oA.tr fE;go_wp2_with fail;refine(lH.O uP _ mF).mono ?_;rintro en Ib ⟨x11,rfl,yx,jG⟩;obtain⟨a11,c11,rfl⟩:=ah.val yx;have zA:Below wr.heap.size wr Ib:=zS.tr jG;go_wp2_with fail;refine(H8.O Ib _ _ (ah.E (ah.E uW fE) jG) yx).mono ?_;rintro en sE ⟨x12,rfl,rj,gk⟩;obtain⟨a12,S4,rfl⟩:=ah.val rj;have Tg:Below wr.heap.size wr sE:=zA.tr gk;go_wp2_with fail;refine(asn.O sE _ rj).mono ?_;rintro en Ze ⟨sH,rfl,vX,lj⟩;obtain⟨a13,c13,rfl⟩:=ah.val vX;have Ux:Below wr.heap.size wr Ze:=Tg.tr lj;have aia:=EG.O;have avO:=aia.2;have aq4:Hid _:=aia.1;have ata:=ah.E hY Ux;have Qv:=hK.E Ux;clear EG aia;go_wp2;go_roundw;(case rel=>exact⟨aH PE,Y,vX,ata,ab,ab,aq4,Qv,af.tr Ux⟩);case measure=>simp[qT];omega):P:=h
def T5{P:Prop}(h:P:=by simp only[tZ];refine nz [4,9] (xi 4 95 107 #[.agg #[.bool b4,.slice a4 n4 c4],.agg #[.bool pb,.slice xp np cp]] ?_ (kY 9 10 (.pointer (some ⟨V.heap.size,0,none⟩)) (V.alloc (Obj.cells #[.bool false,.slice none 0 0] 74)) (aT _ (hb.trans ((ai _ _).mono hb.size))) ?_ bX));refine(HQ.O _ _ h4 (hp6.E hb)).mono ?_;rintro e V ⟨x5,x6,rfl,h5,h6,hx⟩;obtain⟨b5,a5,n5,c5,_,rfl,_,_⟩:=id h5.open;obtain⟨b6,a6,n6,c6,_,rfl,_,_⟩:=id h6.open;have hb:=hb.tr hx;have XA:=XA.E hx;refine⟨_,rfl,aT _ hb,?_⟩;simp only[tZ];refine cf 5 90 (.tuple #[.agg #[.bool b5,.slice a5 n5 c5],.agg #[.bool b6,.slice a6 n6 c6]]) rfl (fun _ _=>rfl) (aT _ hb) ?_;simp only[tZ];refine cf 6 96 (.agg #[.bool b5,.slice a5 n5 c5]) rfl (fun _ _=>a_) (aT _ hb) ?_;simp only[tZ];refine cf 7 97 (.agg #[.bool b6,.slice a6 n6 c6]) rfl (fun _ _=>a_) (aT _ hb) ?_;exact avC;obtain⟨hx,XB⟩:=aI (w:=V) (a:=.bool false) (b:=.slice none 0 0) rfl;have gB:=hb.size;have aF:V.heap.size≠kA:=rG XA.lt;have hb:=hb.tr hx;have h4:=h4.E hx;have XA:=XA.E hx;clear hx;generalize V.heap.size=kB at*;exact T96):P:=h
def T6{P:Prop}(h:P:=by clear oH cC;clear wz;as_aux_lemma=>have CW:ms.length≤500:=ab;(have jx:(some wr.heap.size:Option Nat)≠(Value.slice la ms.length lc).ownBlock:=fun e=>by obtain⟨cur,hc⟩:=gz.list.gO _ e.symm;have:=bw hc;omega);have I_:wr.heap.size≠km:=ab;have Kb:km≠wr.heap.size:=ab;go_wp2_with fail;generalize uF:wr.alloc _=W5;have aV:Below wr.heap.size wr W5:=Cd;have X5:W5.heap[wr.heap.size]?=some (.cells #[.int .u8 46,.string ⟨D.toArray⟩,.int .i64 (s.size:Int)] 91 (0,0)):=aec;clear uF;have Af:=gz.E aV;refine(lH.O W5 (AL.E aV)).mono ?_;rintro en w5 ⟨x5,rfl,dP,DJ⟩;obtain⟨b5,a5,n5,c5,_,rfl,_,_⟩:=id dP.open;have eO:Below wr.heap.size wr w5:=aV.tr DJ;have M5:=M0.E eO;have X5':w5.heap[wr.heap.size]?=some (.cells #[.int .u8 46,.string ⟨D.toArray⟩,.int .i64 (s.size:Int)] 91 (0,0)):=acZ;have EE:(-c:Int).natAbs<10^201:=ac0;have mq:=(Af.E DJ).aaf dP EE true 1;have Ig:=Cw w5 km 0 1 (.bool b5) (.slice a5 n5 c5);have Mp:=M5.I9 (.bool b5) (.slice a5 n5 c5);have Xp:=(Ig.other wr.heap.size I_).trans X5';have vN:Below w.heap.size w ((w5.setCell ⟨km,0,none⟩ (.bool b5)).setCell ⟨km,1,none⟩ (.slice a5 n5 c5)):=((af.tr eO).setCell mH _).setCell mH _;have sK:=dP.kt M5 Ig;have se:=(AS.E eO).kt M5 Ig;have XW:((w5.setCell ⟨km,0,none⟩ (.bool b5)).setCell ⟨km,1,none⟩ (.slice a5 n5 c5)).heap.size=w5.heap.size:=Ig.size;have abi:km<w5.heap.size:=M5.lt;have q0:=M5.c0;have q1:=M5.c1;have q2:=M5.c2;have q3:=M5.c3;have o0:=M5.fr 0;have o1:=M5.fr 1;have o2:=M5.fr 2;have o3:=M5.fr 3;have Th:Hid _:=mq;have HMP:Hid _:=Mp;have Zf:Hid _:=Xp;have Fm:Hid _:=vN;have HIC:Hid _:=sK;have HIE:Hid _:=se;clear mq Mp Xp vN sK se m0 m1 m2 m3 n0 SB n2 n3;go_wp2_with(at_builtin;refine iZ rfl (.tmp 134) (.tmp 136) rfl (km+1) _ ms _ _ _ _ (-c) e _ ax rfl Th.O.list HIC.O HIE.O rfl ab aZ ?_);obtain mq:=Th.O;obtain Mp:=HMP.O;obtain Xp:=Zf.O;obtain vN:=Fm.O;clear q0 q1 q2 q3 o0 o1 o2 o3 Th HMP Zf Fm HIC HIE XW;intro v6 w6 bG bt Av;have Ae:=mq.words.lX Av mq.list;have M6:=lK.lX Mp Av mq.list (rW _);(have X6:w6.heap[wr.heap.size]?=some (.cells #[.int .u8 46,.string ⟨D.toArray⟩,.int .i64 (s.size:Int)] 91 (0,0)):=by rw[Av.block _ (bw Xp) jx];exact Xp);have jP:Below w.heap.size w w6:=vN.trans (bt.mono ab);have nJ:=mq.small.snoc CW EE mq.es;clear mq Mp Xp vN;go_wp2_with fail;refine(HO.O w6).mono ?_;rintro en w7 ⟨x7,rfl,kX,dL⟩;obtain⟨b7,a7,n7,c7,_,rfl,_,_⟩:=id kX.open;have M7:=M6.E dL;have X7:w7.heap[wr.heap.size]?=some (.cells #[.int .u8 46,.string ⟨D.toArray⟩,.int .i64 (s.size:Int)] 91 (0,0)):=IS;have cw:w7.cell? ⟨wr.heap.size,0,none⟩=some (.int .u8 46):=JT;exact asN):P:=h
def T7{P:Prop}(h:P:=by generalize w1.heap.size=kb at*;have xy:w.heap.size≤kb+1:=ab;go_loopw [3,27] (fun o i wr=>∃(k:Nat),k≤zs.length∧i=.int .i64 k∧ah (kb+1) wr o (S.take k)∧gK wr kb sc∧Below w.heap.size w wr) (fun _ i _=>zs.length-(intOf i).toNat);(case atStart=>exact⟨0,aU _,rfl,ah.kF _ _,hKl,Ic⟩);case round=>clear hKl Ic;obtain⟨k,hk,rfl,aj,hK,af⟩:=hrel;obtain⟨gb,ga,gn,gc,G0,hG⟩:=id hK;have oE:=G0.lt;by_cases aM:k<zs.length;(·obtain⟨g',b,xa,xn,xc,Jz,my,nC,hg,_,iB,gh,hI⟩:=ah.at (ah.E hu af) k aM;simp at Jz;subst Jz;have f1:=fx k;have DG:=HPT.O k aM;generalize zs.getD k 0=z at*;have RM:Hid _:=DG;have hlen:(S.take k).length≤zs.length:=mI;obtain⟨L,HL⟩:∃L,Hid (S.take k=L):=⟨_,rfl⟩;rw[HL.O]at aj hlen;clear DG;have hM:=fun(W:World) (g1:cr W (.agg #[.bool b,.slice xa xn xc]) z) (g2:cr W (.agg #[.bool gb,.slice ga gn gc]) sc)=>wR _ _ z sc W g1 g2 f1 fs awc;have HM:Hid _:=hM;clear hM;have q0:=G0.c0;have q1:=G0.c1;go_wp2_with fail;generalize xw:wr.alloc (Obj.cells #[.bool b,.slice xa xn xc] 74)=W1;obtain⟨ay,_⟩:=aI xw;clear xw;refine(HM.O W1 (hI.E ay) (hG.E ay)).mono ?_;rintro e w5 ⟨x5,x6,rfl,dP,gM,aV⟩;obtain⟨b5,a5,n5,c5,_,rfl,_,_⟩:=id dP.open;obtain⟨b6,a6,n6,c6,_,rfl,_,_⟩:=id gM.open;have fT:Below w.heap.size w w5:=(af.tr ay).trans (aV.mono ad7);have iv:=ah.E (ah.E aj ay) aV;have tE:=(hK.E ay).E aV;have DN:=fun(W:World) (o o':Obj)=>(ai W o).trans ((ai (W.alloc o) o').mono ax);have Zp:=aV.size;have YW:=ay.size;go_wp2_with(at_builtin;refine rS rfl (.tmp 37) (.tmp 39) rfl (kb+1) _ L _ _ (z.tdiv sc) _ ax rfl (ah.E iv (DN _ (.cells #[.bool b5,.slice a5 n5 c5] 74) (.cells #[.bool b6,.slice a6 n6 c6] 74))) (dP.E (DN _ _ _)) rfl ab aZ ?_);intro v7 w7 eF dL aex;rw[←HL.O,←RM.O]at eF;have yo:gK w7 kb sc:=(tE.E (DN _ _ _)).grown (ah.E iv (DN _ _ _)) (rW _) aex;have uX:Below w.heap.size w w7:=(fT.trans ((DN _ _ _).mono fT.size)).trans (dL.mono ab);go_wp2;go_roundw;(case rel=>exact⟨k+1,ab,by go_num,eF,yo,uX⟩);case measure=>simp[intOf];omega);·(obtain rfl:k=zs.length:=by omega);(have hSl:S.take zs.length=S:=by rw[gT];rw[←HS.O,bV];omega);rw[hSl]at aj;obtain⟨oa,oc,rfl⟩:=ah.val aj;go_wp2;go_ret;exact⟨_,rfl,aj.nD,af⟩):P:=h
def T8{P:Prop}(h:P:=by
 refine pQ 3 95 111 #[.agg #[.bool gb,.slice ga gn gc],.agg #[.bool b12,.slice a12 n12 S4]] ?_;refine(uw _ _ M (p:Int) sE (hGd.E gk) rj fMM fpp).mono ?_;rintro en Ze ⟨sH,rfl,vX,lj⟩;obtain⟨b13,a13,n13,c13,rfl⟩:=vX.form;have xD:=Ew.tr lj;have G13:=G8.E xD;have r0:=G13.c0;have r1:=G13.c1;have r2:=G13.f0;have r3:=G13.f1;have Qv:=ee.stored G13 vX;have Nn:=lB.boxed (lB.lower (bu.E (uO _) (bu.E (uO _) aeF gk) lj) hs8) G13 ab (.bool b13) (.slice a13 n13 c13);have afL:=ar (Dg.tr xD) (al _) (.bool b13) (.slice a13 n13 c13);have Tv:=Qv.at;refine⟨_,rfl,trivial,?_⟩;simp only[tZ];refine DO 4 ((Ze.setCell ⟨w3.heap.size,0,none⟩ (.bool b13)).setCell ⟨w3.heap.size,1,none⟩ (.slice a13 n13 c13)) trivial ?_;clear r0 r1 r2 r3 G13;generalize(Ze.setCell ⟨w3.heap.size,0,none⟩ (.bool b13)).setCell ⟨w3.heap.size,1,none⟩ (.slice a13 n13 c13)=V4 at*;refine eH aw ?_ _;have hPW:(p:Int)^(k+1)=M*p:=by rw[HMS.O,HM.O]
 rw[←hPW]at Qv hM3 Tv;have aeN:E4.natAbs+1-bAt w3.heap.size V4<E4.natAbs+1-bAt w3.heap.size wo2:=by rw[Tv,asr];(have h1:((p:Int)^(k+1)).natAbs=((p:Int)^k).natAbs*p:=by rw[HMS.O,eX,mv]);have h2:1≤((p:Int)^k).natAbs:=ab;have h3:((p:Int)^k).natAbs*2≤((p:Int)^k).natAbs*p:=Gp _ cZ;(have h4:((p:Int)^k).natAbs≤E4.natAbs:=by rw[HM.O];rw[HM.O]at hMp;omega);omega
 have aqG:Hid _:=aeN;have aoh:Hid _:=(⟨Qv,hM3⟩:_∧_);clear aeN Tv hPW Qv hM3;go_wp2;go_roundw;case rel=>exact⟨k+1,UP,Nn,aoh.O.1,HNL,aoh.O.2,afL⟩
 case measure=>rw[←arD.O];exact aqG.O):P:=h
def T9{P:Prop}(h:P:=by generalize V.alloc (Obj.cells #[.bool false,.slice none 0 0] 74)=V at*;simp only[tZ];refine nz [12] (xi 12 28 107 #[.agg #[.bool b1,.slice xa xn xc],.agg #[.bool b2,.slice ya yn yc]] ?_ bX);refine(HQ.O _ (bC.E hb) (cJ.E hb)).mono ?_;rintro e V ⟨x5,x6,rfl,h5,h6,hx⟩;obtain⟨b5,a5,n5,c5,_,rfl,_,_⟩:=id h5.open;obtain⟨b6,a6,n6,c6,_,rfl,_,_⟩:=id h6.open;have hb:=hb.tr hx;have XA:=XA.E hx;have XB:=XB.E hx;refine⟨_,rfl,aT _ hb,?_⟩;simp only[tZ];refine cf 13 15 (.tuple #[.agg #[.bool b5,.slice a5 n5 c5],.agg #[.bool b6,.slice a6 n6 c6]]) rfl (fun _ _=>rfl) (aT _ hb) ?_;simp only[tZ];refine cf 14 29 (.agg #[.bool b5,.slice a5 n5 c5]) rfl (fun _ _=>a_) (aT _ hb) ?_;simp only[tZ];refine cf 15 30 (.agg #[.bool b6,.slice a6 n6 c6]) rfl (fun _ _=>a_) (aT _ hb) ?_;exact avF):P:=h
def T10{P:Prop}(h:P:=by generalize V.alloc (Obj.cells #[.bool false,.slice none 0 0] 105)=V at*;simp only[tZ];refine nz [5] (xi 5 23 106 #[.agg #[.bool b1,.slice xa xn xc],.agg #[.bool gb,.slice ga gn gc]] ?_ bX);refine(HQ.O _ (bC.E hb) (cJ.E hb)).mono ?_;rintro e V ⟨x5,x6,rfl,h5,h6,hx⟩;obtain⟨b5,a5,n5,c5,rfl⟩:=h5.form;obtain⟨b6,a6,n6,c6,rfl⟩:=h6.form;have hb:=hb.tr hx;have XA:=XA.E hx;have XB:=XB.E hx;refine⟨_,rfl,aT _ hb,?_⟩;simp only[tZ];refine cf 6 17 (.tuple #[.agg #[.bool b5,.slice a5 n5 c5],.agg #[.bool b6,.slice a6 n6 c6]]) rfl (fun _ _=>rfl) (aT _ hb) ?_;simp only[tZ];refine cf 7 24 (.agg #[.bool b5,.slice a5 n5 c5]) rfl (fun _ _=>a_) (aT _ hb) ?_;simp only[tZ];refine cf 8 25 (.agg #[.bool b6,.slice a6 n6 c6]) rfl (fun _ _=>a_) (aT _ hb) ?_;exact aut):P:=h
def T11{P:Prop}(h:P:=by generalize V.alloc (Obj.cells #[.bool false,.slice none 0 0] 105)=V at*;simp only[tZ];refine nz [5] (xi 5 23 106 #[.agg #[.bool b1,.slice xa xn xc],.agg #[.bool gb,.slice ga gn gc]] ?_ bX);refine(HQ.O _ (bC.E hb) (cJ.E hb)).mono ?_;rintro e V ⟨x5,x6,rfl,h5,h6,hx⟩;obtain⟨b5,a5,n5,c5,rfl⟩:=h5.form;obtain⟨b6,a6,n6,c6,rfl⟩:=h6.form;have hb:=hb.tr hx;have XA:=XA.E hx;have XB:=XB.E hx;refine⟨_,rfl,aT _ hb,?_⟩;simp only[tZ];refine cf 6 17 (.tuple #[.agg #[.bool b5,.slice a5 n5 c5],.agg #[.bool b6,.slice a6 n6 c6]]) rfl (fun _ _=>rfl) (aT _ hb) ?_;simp only[tZ];refine cf 7 24 (.agg #[.bool b5,.slice a5 n5 c5]) rfl (fun _ _=>a_) (aT _ hb) ?_;simp only[tZ];refine cf 8 25 (.agg #[.bool b6,.slice a6 n6 c6]) rfl (fun _ _=>a_) (aT _ hb) ?_;exact an2):P:=h
def T12{P:Prop}(h:P:=by have HP:Hid _:=hP;have HR:Hid _:=hR;have HBo:Hid _:=Zq;clear hP hR Zq bx bY;have hK:=fun(W:World) (x m:Value) (e f:Int) (h:Below w.heap.size w W) (hV:vy W x e m f)=>(pP B k ps x m e f W (hW.E h) hV hlen hB (ht.E h rO)).mono (fun en w' hs=>hs.from h rO);have HK:Hid _:=hK;clear hK;obtain⟨PO,zC⟩:∃PO:Ending→World→Prop,Hid (PO=fun en w'=>gN lv B k ps w en w'):=⟨_,rfl⟩;rw[←zC.O]at HK;rw[←zC.O];go_enter func18,ntmps18;go_wp2_with fail;generalize Vv:(w.alloc (Obj.cells #[.pointer (some ⟨k1,0,none⟩),.slice a1 p.length c1] 35)).alloc (Obj.cells #[.pointer (some ⟨k2,0,none⟩),.slice a2 q.length c2] 35)=W0;obtain⟨su,aB,X1,X2⟩:=C2 Vv;clear Vv;refine(HP.O W0 aB).mono ?_;rintro en w1 ⟨x,er,rfl,EY,ay⟩;have e8:=aB.tr ay;have q1:=DC ((ay.block w.heap.size ab).trans X1);have q2:=DC ((ay.block (w.heap.size+1) ab).trans X2);have uK:w.heap.size+1<w1.heap.size:=IP;go_wp2_with fail;refine(HR.O w1 e8).mono ?_;rintro en w2 ⟨y,rfl,cJ,aC⟩;obtain⟨ya,yc,rfl⟩:=ah.val cJ;have eE:=e8.tr aC;go_wp2_with fail;refine(HBo.O w2 _ cJ).mono ?_;rintro en w3 ⟨m,f,rfl,Zk,aK⟩;have ml:=aC.tr aK;have ed:=e8.tr ml;exact avH):P:=h
def T13{P:Prop}(h:P:=by refine pQ 3 18 63 #[.agg #[.bool gb,.slice ga gn gc],.agg #[.bool b2,.slice a2 n2 c2]] ?_;refine(sD _ _ V x w2 hG2 cJ fV fx2).mono ?_;rintro en w3 ⟨x3,rfl,cU,aK⟩;obtain⟨b3,a3,n3,c3,_,rfl,_,_⟩:=id cU.open;have dq:=cR.tr aK;have G3:=G2.E aK;have B3:=B2.E aK;refine⟨_,rfl,aT _ dq,?_⟩;simp only[tZ];refine pQ 8 23 58 #[.agg #[.bool b3,.slice a3 n3 c3],.agg #[.bool b,.slice xa xn xc]] ?_;refine(qe _ _ (V*x) z w3 cU ((bC.E aC).E aK) fVx f1).mono ?_;rintro en w4 ⟨x4,rfl,kC,bU⟩;obtain⟨b4,a4,n4,c4,_,rfl,_,_⟩:=id kC.open;have jA:=dq.tr bU;have G4:=G3.E bU;have B4:=B3.E bU;have r0:=G4.c0;have r1:=G4.c1;have r2:=G4.f0;have r3:=G4.f1;have EZ:=gK.stored G4 kC;rw[HCT.O]at EZ;have hB4:=B4.other (show w.heap.size≠w.heap.size+1 by omega) (.bool b4) (.slice a4 n4 c4);have aV:=ar jA (show w.heap.size≤w.heap.size+1 by omega) (.bool b4) (.slice a4 n4 c4);refine⟨_,rfl,aT _ jA,?_⟩;simp only[tZ];refine DO 9 ((w4.setCell ⟨w.heap.size+1,0,none⟩ (.bool b4)).setCell ⟨w.heap.size+1,1,none⟩ (.slice a4 n4 c4)) (aT _ aV) ?_;clear r0 r1 r2 r3 G4 B4 kC jA bU;generalize(w4.setCell ⟨w.heap.size+1,0,none⟩ (.bool b4)).setCell ⟨w.heap.size+1,1,none⟩ (.slice a4 n4 c4)=W5 at*;refine eH aw ?_ _;go_wp2;go_roundw;(case rel=>exact⟨k,ab,by go_num,EZ,hB4,aV⟩);case measure=>simp[intOf]):P:=h
def T14{P:Prop}(h:P:=by
 have jJ:=Qp.O.1.ends;have hbP:=Qp.O.2.2;have hfR:∀i,i<R.length→Fit (R.getD i 0):=fun i _=>aP (Qp.O.2.1 i) (by rw[yN];omega);have QU:=eK R (.slice ra R.length rc) wr hR ab hfR;clear Qp;generalize tz R=tR at*;have HEND:Hid _:=jJ;clear jJ;have uQ:((0:Nat):Int)-1<0:=ab;go_wp2_with fail;refine QU.mono ?_;rintro en w5 ⟨x5,rfl,dP,aV⟩;obtain⟨a5,c5,rfl⟩:=ak.val dP;have hO5:=(ak.E hO aV).nD;have et:(tR=[]∧jN b (A0.length+1-b.length) A0=some P∧tR.length=0)∨(tR≠ []∧jN b (A0.length+1-b.length) A0=none∧0<tR.length∧¬tR.length=0):=by rcases HEND.O with⟨h1,h2⟩|⟨h1,h2⟩;exact .inl ⟨h1,h2,by rw[h1];rfl⟩;have:=bR.2 h1;exact .inr ⟨h1,h2,this,ab⟩
 have HC:Hid _:=et;clear et HEND;obtain⟨L,HL⟩:∃L,Hid (tR.length=L):=⟨_,rfl⟩;by_cases hL:tR.length=0;·go_wp2;go_ret2;refine⟨_,_,rfl,?_,af.tr aV⟩;rw[HT.O];rcases HC.O with⟨_,h2,_⟩|⟨_,_,h3,_⟩;exact .inl ⟨ax,P,h2,hO5,hbP⟩;omega
 ·(have hLp:0<tR.length:=by omega);go_wp2;go_ret2;refine⟨_,_,rfl,?_,af.tr aV⟩;rw[HT.O];rcases HC.O with⟨_,_,h3⟩|⟨_,h2,_⟩;omega;exact .inr ⟨aZ,h2⟩):P:=h
def T15{P:Prop}(h:P:=by refine pQ 6 19 99 #[.agg #[.bool gb,.slice ga gn gc],.agg #[.bool b2,.slice a2 n2 c2]] ?_;refine(HM.O w2 b2 a2 n2 c2 hG2 cJ).mono ?_;rintro en w3 ⟨x3,rfl,cU,aK⟩;obtain⟨b3,a3,n3,c3,rfl⟩:=cU.form;have G3:=G2.E aK;have B3:=B2.E aK;have r0:=G3.c0;have r1:=G3.c1;have r2:=G3.f0;have r3:=G3.f1;have dq:Below w.heap.size w w3:=cR.tr aK;have lh:=ee.stored G3 cU;rw[←HCT.O]at lh;have KY:=B3.other (show w.heap.size≠w.heap.size+1 by omega) (.bool b3) (.slice a3 n3 c3);have bU:=ar dq (show w.heap.size≤w.heap.size+1 by omega) (.bool b3) (.slice a3 n3 c3);refine⟨_,rfl,aT _ dq,?_⟩;simp only[tZ];refine DO 7 ((w3.setCell ⟨w.heap.size+1,0,none⟩ (.bool b3)).setCell ⟨w.heap.size+1,1,none⟩ (.slice a3 n3 c3)) (aT _ bU) ?_;exact T75):P:=h
def T16{P:Prop}(h:P:=by simp only[tZ];clear p1 hpc;refine yr 10 100 (fun v' w'=>br W9.heap.size w' v' (A.take j++[x])∧V0.grownBy w' (Value.slice aa (A.take j).length ac).ownBlock∧∀k,v'.ownBlock=some k→(Value.slice aa (A.take j).length ac).ownBlock=some k∨V0.heap.size≤k) rfl rfl aw rfl (fun K hK=>IB (.tmp 94) (.tmp 99) rfl W9.heap.size _ (A.take j) x rfl H4.a rfl aZ H4.k.size fun v' w' g1 g2 g3=>hK v' w' ⟨g1,g2,g3⟩) ?_;rintro v12 sE ⟨g1,g2,g3⟩;obtain⟨DQ,H12⟩:=H4.setAt g1 g2 g3;have r1:=DQ.fz 1;have r2:=DQ.c.2.1;have amk:=DQ.lt;have HR:Hid _:=H12;clear H12;refine⟨trivial,?_⟩;simp only[tZ];refine bh 11 101 (.pointer (some ⟨w.heap.size,0,none⟩)) hS ?_;simp only[tZ];refine bh 12 102 (.pointer (some ⟨w.heap.size,1,none⟩)) hS ?_;simp only[tZ];obtain⟨af1,ae0,rfl⟩:=g1.row.val;refine DO 13 (sE.setCell ⟨w.heap.size,1,none⟩ (.slice af1 (A.take j++[x]).length ae0)) trivial ?_;refine eH aw ?_ _;go_wp2_with fail;go_meet;case rel=>exact⟨_,by rw[←HAT.O];exact HR.O⟩):P:=h
def T17{P:Prop}(h:P:=by
 have gE:Hid (fw s.size (ws.drop (k+1)) ⟨ms,(numOf 0 D:Int),e,neg,2⟩=R):=by have:=oH.O;rw[cC]at this;exact this
 clear oH cC;clear lH HO;go_wp2_with fail;generalize uF:wr.alloc _=W5;have aV:Below wr.heap.size wr W5:=Cd;clear uF;have Af:=gz.E aV;refine(wz.O W5).mono ?_;rintro en w6 ⟨x6,rfl,gM,bt⟩;obtain⟨b6,a6,n6,c6,_,rfl,_,_⟩:=id gM.open;have Lg:=Af.E bt;have dR:Below wr.heap.size wr w6:=aV.tr bt;have M6:=M0.E dR;have q0:=M6.c0;have q1:=M6.c1;have q2:=M6.c2;have q3:=M6.c3;have o0:=M6.fr 0;have o1:=M6.fr 1;have o2:=M6.fr 2;have o3:=M6.fr 3;have LP:=Lg.aaf gM (by simpa using Rm) neg 2;have HR7:Hid _:=LP;clear LP;go_wp2;refine jn ?rel ?measure;case rel=>exact⟨k+1,⟨ms,(numOf 0 D:Int),e,neg,2⟩,ab,by go_num,rfl,rfl,(by decide:(2:Nat)≤6),Jj,HR7.O,gE,((af.tr dR).setCell mH _).setCell mH _⟩
 case measure=>simp[intOf];omega):P:=h
def T18{P:Prop}(h:P:=by rintro en w3 ⟨rfl,aK⟩;have ed:=dI.tr aK;refine⟨_,rfl,aT _ ed,?_⟩;simp only[tZ];refine r7 9 6 (.int .i64 (cV x y)) (w':=w3) rfl rfl aw rfl rfl (aT _ ed) ?_;simp only[tZ];refine eH aw ?_ _;clear hS aT;by_cases K_:x=y;(·have HN:Hid _:=HKE.O.1 K_;subst K_;rw[ru];clear HKE;go_wp2;go_roundw;(case rel=>exact⟨k,ab,by go_num,HN,ed⟩);case measure=>simp[intOf]);·have HN:Hid (r=decide (x<y)):=HKE.O.2 K_;clear HKE;rcases(show x<y∨y<x by omega)with h|h;(·rw[l5 h];(have hr:r=true:=by rw[HN.O];exact fR h);subst hr;clear HN;go_wp2;go_ret;exact⟨rfl,ed⟩);·rw[l7 h];(have hr:r=false:=by rw[HN.O];exact fu ab);subst hr;clear HN;go_wp2;go_ret;exact⟨rfl,ed⟩):P:=h
def T19{P:Prop}(h:P:=by refine h v' w' ⟨cs++[(b,y)],oM,?_,?_⟩ ((aL _ _).grown hg hB jx) hg;rw[jT];simpa[flat]using g1;intro j p hj;by_cases vx:j<cs.length;rw[eo vx]at hj;have uY:(zs++[z]).getD j 0=zs.getD j 0:=WO;rw[uY];exact(h3 j p hj).kept hg jq;rw[iN ab]at hj;(have Fg:j-cs.length=0:=by exact Qk);exact T85):P:=h
def T20{P:Prop}(h:P:=by rw[HL2.O]at HX i_;go_wp2_with fail;refine kZ.mono ?_;rintro e w1 ⟨rfl,rfl⟩;go_wp2_with fail;refine zZ.mono ?_;rintro e w1 ⟨rfl,rfl⟩;go_wp2_with fail;refine i_.mono ?_;rintro e w2 ⟨x2,rfl,cJ,aC⟩;obtain⟨ya,yc,rfl⟩:=cJ.row.val;have dD:=bu.E jz aj aC;have eE:=af.tr aC;go_wp2_with(at_builtin;refine dU jz C8 xz rfl (.tmp 46) (.tmp 55) rfl w.heap.size _ K _ L2 rfl dD cJ.row rfl ab eE.size ?_);intro v3 w3 cO aK hg3;have awd:=jz.kept (Ds.E aC) hg3 dD.gO;go_wp2;go_roundw;(case rel=>exact⟨j+1,K++[L2],sp,sc,ab,by go_num,rfl,KS,cO,awd,HX,eE.trans aK⟩);case measure=>simp[intOf];omega):P:=h
def T21{P:Prop}(h:P:=by go_wp2_with fail;go_region;(all_goals go_wp2);have hRn:Rd (wr.drewN (nq+1)) rb s k tv:=zK;have Xn:Bx (wr.drewN (nq+1)) w.heap.size (.bool false) (.slice none 0 0):=X3;have Jn:bK (wr.drewN (nq+1)) (.agg #[.bool nb,.slice na nn nc]) (num:Int):=J6;refine cE (v:=.tuple #[.agg #[.bool nb,.slice na nn nc],.bool (decide (k0<k))]) (by simp[results,results126,go_sem,x0,x1]) rfl ⟨_,by rw[HOK.O],?_,?_,?_⟩;rw[HNM.O];exact Jn.cK Xn _ _;rw[wB.O];exact hRn.other ab _ _;exact((AM.drewN (nq+1)).fZ lI (al _)).fZ lI (al _)):P:=h
def T22{P:Prop}(h:P:=by have h0:Di p (fun t=>ev t G) (fun t=>ev t ([]:ae)):=Di.mR (Zm.aq _ fun _=>rfl);have hr:Di p (fun t=>ev t G) (fun t=>ev t G):=Di.of_eq (s:=fun _=>1) (Po.const 1) fun t=>ax;have d1:=h.gc.g2.di hr h0;have d2:=h.gc.g1.di hr h0;have hdc:Di p (fun t=>ev t G) (fun _=>c):=((d1.mul h1).add (d2.mul h2)).alike (h4.neg.congr fun t=>LB);refine h3 (kP hp (Po.ev G) (fun AE=>?_) hdc);have:=(h.gc.nA.dm aF).uniq AE;omega):P:=h
def T23{P:Prop}(h:P:=by
 obtain⟨ga',e,_,_,_,hc⟩:=hr.at j ab;simp at e;subst e;have hv:v=.int .i64 (l.getD j 0):=by rw[bQ (show j<l.length by omega)];simp[mP hj',cj (show j<l.length by omega)]at hj;exact hj.symm
 have ha:(⟨ga,0,none⟩:Addr).add j=⟨ga,j,none⟩:=by cases j<;>simp[Addr.add]
 rw[hv,ha];exact hc):P:=h
def T24{P:Prop}(h:P:=by obtain⟨c,h1,h2,h3⟩:=h;refine⟨c,h1,⟨h2.1,?_⟩,fun i p hp=>(h3 i p hp).P8 hk hs ax⟩;rcases h2.2 with hn|⟨g,cap,cur,hv,hB,hg,r⟩;exact .inl hn;refine .inr ⟨g,cap,cur,hv,hB,?_,r⟩;rw[hk.block g (gf.1 hg).1 ?_ ax];exact hg;intro e;subst e;unfold Sx at hs;rw[hg]at hs;simp at hs):P:=h
def T25{P:Prop}(h:P:=by have uB:=P1.at;have fD:Hid _:=(⟨P0,P1,P2,Km,uB⟩:_∧_∧_∧_∧_);clear M0 E1a aaC N0 N1 N2 DN P0 P1 P2 SM Km uB JI;have HG2:Hid (Int.gcd b rr=g):=fh.2.2.trans HG.O;go_wp2;obtain⟨P0,P1,P2,Km,uB⟩:=fD.O;refine⟨⟨b,rr,P0,P1,P2,hb,fh.1,fb,fb.le ab,HG2,Km⟩,?_⟩;rw[uB,kV];omega):P:=h
def T26{P:Prop}(h:P:=by
 intro l;induction l with
 |nil=>intro _;exact Zm.aq _ fun _=>rfl
 |cons a l ih=>intro hl;(have g1:(p:Int)∣a:=by simpa using hl 0);(have g2:=ih fun k=>by simpa using hl (k+1));refine((Zm.of_dvd (Po.const 1) g1).add (g2.mul (Po.mW 1))).congr fun t=>?_;show a+t*ev t l=a*1+t^1*ev t l;rw[lG];omega):P:=h
def T27{P:Prop}(h:P:=by
 refine⟨hb,[(b,y),(b2,y2)],rfl,⟨rfl,.inr ⟨w.heap.size,2,#[.bool b,y,.bool b2,y2],rfl,aU _,fL w _,al _,oT,rfl,rfl⟩⟩,fun i p hp=>?_⟩;match i,hp with
 |0,hp=>simp at hp;subst hp;exact hz.E hb
 |1,hp=>simp at hp;subst hp;exact iw.E hb
 |i+2,hp=>simp at hp):P:=h
def T28{P:Prop}(h:P:=by(have h2:(xs.getD n 0*ys.getD (k-n) 0).natAbs≤10^(e+f):=by rw[eX,iE];exact dt (jU (hx n)) (jU (hy (k-n))));have h3:=vU (uT xs ys k n) (xs.getD n 0*ys.getD (k-n) 0);show(uT xs ys k n+xs.getD n 0*ys.getD (k-n) 0).natAbs≤_;rw[nN];omega):P:=h
def T29{P:Prop}(h:P:=by rw[map_set]at fh;have ie:Hid _:=fh;clear hs fh HE HX HY Ma lU hqy;go_wp2_with fail;refine gh.mono ?_;rintro e w' ⟨rfl,rfl⟩;clear gh;go_wp2;go_roundw;(case rel=>exact⟨k+1,_,_,ab,by go_num,rfl,ab,ab,Ea,ie.O,HS,af.setCell (al _) _⟩);case measure=>simp[intOf];omega):P:=h
def T30{P:Prop}(h:P:=by have HS:Hid _:=hs;clear hs HI;go_wp2_with(at_builtin;refine eN rfl (.tmp 12) (.tmp 15) rfl W0.heap.size _ sl _ rfl aj rfl ab af.size ?_);intro v' w1 cH ay _;go_wp2;go_roundw;(case rel=>exact⟨q/10,_,by go_num,cH,aZ,HS,af.trans ay⟩);case measure=>simp[intOf];omega):P:=h
def T31{P:Prop}(h:P:=by(have h3:k*10^200<10^204:=by(have:10^204=10^4*10^200:=by rw[←iE]);rw[this];exact YH ab (du ab));have h4:10^204≤1000000000^204:=S5 ab 204;exact fe h1 (dy h3 h4)):P:=h
def T32{P:Prop}(h:P:=by subst he;exact⟨_,rfl,_,_,_,[],_,[],Ii,trodAll_mk1 (shut_bool underlying4 _),trodAll_mk1 (WideElems.Trod_stays Tryz.Uu aw (zk aw) h0 (fun x hx=>hg.same (Ii.lt x hx)) (fun x hx=>by simpa using Ii.lt x hx)),rfl,hg.frame _,fun h=>ji⟩):P:=h
def T33{P:Prop}(h:P:=by
 go_wp2_with fail;refine hS.mono ?_;rintro e w1 ⟨b,rfl,hb,ay⟩;cases b with
 |false=>go_wp2;go_ret;exact⟨rfl,ay⟩
 |true=>have hn:=hb rfl;go_wp2_with fail;refine(HU.O w1 ay hn).mono ?_;rintro e w2 ⟨rfl,aC⟩;go_wp2;go_ret;exact⟨rfl,ay.tr aC⟩):P:=h
def T34{P:Prop}(h:P:=by go_wp2_with fail;generalize hW:w.alloc (Obj.cells #[.bool b,.slice xa l.length xc] 105)=W0;obtain⟨aB,X0⟩:=aG hW;clear hW;refine(HT.O W0 (hv.E aB) (ht.E aB)).mono ?_;rintro e w1 ⟨rfl,ay⟩;go_wp2;go_ret;exact⟨rfl,aB.tr ay⟩):P:=h
def T35{P:Prop}(h:P:=by obtain⟨aC,X3⟩:=aI xw;clear xw;refine(hZ W1 (bC.E aC)).mono ?_;rintro e w2 ⟨rfl,aK⟩;have X3':=X3.E aK;have r0:=X3'.c0;go_wp2;go_ret;exact⟨rfl,(jt.tr aC).trans (aK.mono (by have:=jt.size;have:=aC.size;omega))⟩):P:=h
def T36{P:Prop}(h:P:=by have h0:=vk wr (.cells #[.int .i64 y] 3) v.ownBlock;exact arL):P:=h
def T37{P:Prop}(h:P:=by go_wp2_with fail;refine h1.mono ?_;rintro e w' ⟨rfl,rfl⟩;go_wp2_with fail;refine h2.mono ?_;rintro e w' ⟨rfl,rfl⟩;go_wp2_with fail;refine h3.mono ?_;rintro e w' ⟨rfl,rfl⟩;go_wp2;go_ret;exact⟨rfl,rfl⟩):P:=h
def T38{P:Prop}(h:P:=by intro v4 w4 cS bU;go_wp2;go_roundw;(case rel=>exact⟨k+D.length,_,ab,by go_num,aZ,cS,gE,(af.trans ((ai _ _).mono af.size)).trans bU⟩);case measure=>simp[intOf];omega):P:=h
def T39{P:Prop}(h:P:=by go_enter func98,ntmps98;go_wp2;refine cE (v:=.agg #[.bool false,.slice none 0 0]) agE rfl ⟨_,rfl,uD,(aL _ _).alloc (al _) _⟩):P:=h
def T40{P:Prop}(h:P:=by have aF:(x !=y)=true:=aZ;subst hz;clear HD HZ HX HY;go_wp2_with fail;go_quiet(fail);go_wp2_with fail;go_quiet(fail);go_wp2_with fail;go_ret;exact⟨rfl,_,(Mb w n _ _)⟩):P:=h
def T41{P:Prop}(h:P:=by subst hz;clear HD HZ HX HY;go_wp2_with fail;refine gh.mono ?_;rintro e w' ⟨rfl,rfl⟩;go_wp2_with fail;refine Hy.mono ?_;rintro e w' ⟨rfl,rfl⟩;go_wp2_with fail;go_ret;exact⟨rfl,rfl⟩):P:=h
def T42{P:Prop}(h:P:=by obtain⟨eI,aB,X0,X1⟩:=l6 hW;clear hW;refine(HC.O W0 (hx.E aB) (hy.E aB)).mono ?_;rintro e w' ⟨rfl,rfl⟩;have r3:=X0.c0;go_wp2;go_ret;exact⟨rfl,aB⟩):P:=h
def T43{P:Prop}(h:P:=by intro v4 w4 cS bU _;rw[←HL.O,←si.O]at cS;go_wp2;go_roundw;(case rel=>exact⟨k+1,ab,by go_num,cS,dq.trans bU⟩);case measure=>simp[intOf];omega):P:=h
def T44{P:Prop}(h:P:=by intro v4 w4 cS bU _;rw[←HL.O,←si.O]at cS;go_wp2;go_roundw;(case rel=>exact⟨k+1,ab,by go_num,cS,e8.trans bU⟩);case measure=>simp[intOf];omega):P:=h
def T45{P:Prop}(h:P:=by intro k c e f h0 h2;rw[hg.block k (bw h0) (fun e0=>?_)];exact h0;obtain⟨cur,hc⟩:=ht k e0.symm;rw[h0]at hc;simp at hc;exact h2 (.inr hc.2.1)):P:=h
def T46{P:Prop}(h:P:=by rcases aX k l.length with h|h;simp[List.getD,q_,cj h];rw[au dN,au h];simp):P:=h
def T47{P:Prop}(h:P:=by obtain⟨rs,h1,h2,h3⟩:=h;exact auo):P:=h
def T48{P:Prop}(h:P:=by rw[Lc];by_cases h1:48≤bi;rw[fu (show ¬bi≤57 from fun h2=>AV ⟨h1,h2⟩)];simp;rw[fu h1];rfl):P:=h
def T49{P:Prop}(h:P:=by have h1:=qK h;have h2:=rN (l.drop (eW l n));rw[rR]at h2;show eW l n+(ez (l.drop (eW l n))).length≤_;omega):P:=h
def T50{P:Prop}(h:P:=by
 refine⟨d,t,?_,?_⟩;intro h e;subst e;simp at h
 ·cases s with
  |nil=>cases b<;>simp[sv,ev]
  |cons a s=>cases b<;>rfl):P:=h
def T51{P:Prop}(h:P:=by
 intro L;induction L with
 |nil=>intro t;rfl
 |cons x L ih=>intro t;have:=tC x L 0 t;rw[GJ]at this;rw[this,ih]):P:=h
def T52{P:Prop}(h:P:=by have HS:Hid _:=hs;clear hs HE;go_wp2;go_ret;exact⟨P,_,rfl,(xu aj hP).row,HS.O.1,HS.O.2,ab,af⟩):P:=h
def T53{P:Prop}(h:P:=by rcases aX l.length m.length with h|h;have:=df ab h1.iA h2.iA h2.trim h;omega;exact h):P:=h
def T54{P:Prop}(h:P:=by rw[cB];split;rfl;rw[au (show xs.length≤k by omega),au (show ys.length≤k by omega)];rfl):P:=h
def T55{P:Prop}(h:P:=by rcases h.2 with⟨h,h'⟩|⟨g,cap,cur,hv,_⟩;exact⟨none,0,by rw[h'];exact h⟩;exact⟨_,_,hv⟩):P:=h
def T56{P:Prop}(h:P:=by have h1:=UH hk;have h2:=rH n;unfold gF;split;omega;split;omega;simp;omega):P:=h
def T57{P:Prop}(h:P:=by have hx:0<x:=gw;(have:cont [x]=x.natAbs:=by simp[cont]);rw[this]at hc;have:x=1:=ab;rw[this]):P:=h
def T58{P:Prop}(h:P:=by rcases(show(pw:Int)<p∨(p:Int)<pw by omega)with h|h;rw[l5 h];rfl;rw[l7 h];rfl):P:=h
def T59{P:Prop}(h:P:=by go_wp2_with fail;have dI:Below wc.heap.size wc wc.drew:=⟨rfl,rfl,rfl,al _,fun _ _=>rfl⟩;have al3:=qi.tr dI;have avy:=Rf.tr dI;have Xv:=(dI.block w.heap.size KS).trans Xc;have alz:=(dI.block pb rU).trans yf;obtain⟨v3,v4,asx⟩:=HS2.O _ al3;have ar6:=hPc.E dI;have hS0:wc.drew.cell? ⟨w.heap.size,0,none⟩=some (.int .i64 kind)∧wc.drew.cell? ⟨w.heap.size,2,none⟩=some (.int .i64 b)∧wc.drew.cell? ⟨k,0,none⟩=some (.slice (some ⟨g,0,none⟩) ps.length wq)∧wc.drew.cell? ⟨pb,0,none⟩=some (.pointer (some ⟨k1,0,none⟩))∧wc.drew.cell? ⟨pb,1,none⟩=some (.slice ma p.length mc)∧wc.drew.cell? ⟨g,i2*2,none⟩=some (.pointer (some ⟨k2,0,none⟩))∧wc.drew.cell? ⟨g,i2*2+1,none⟩=some (.slice ma2 p2.length mc2):=⟨aeG Xv,afa Xv,(aT _ al3).1,ae5 alz,DC alz,v3,v4⟩;clear z0 z1 y0 y2 x0 x1 x2 q0 v3 v4;refine abK (S:=fun W=>W.cell? ⟨w.heap.size,0,none⟩=some (.int .i64 kind)∧W.cell? ⟨w.heap.size,2,none⟩=some (.int .i64 b)∧W.cell? ⟨k,0,none⟩=some (.slice (some ⟨g,0,none⟩) ps.length wq)∧W.cell? ⟨pb,0,none⟩=some (.pointer (some ⟨k1,0,none⟩))∧W.cell? ⟨pb,1,none⟩=some (.slice ma p.length mc)∧W.cell? ⟨g,i2*2,none⟩=some (.pointer (some ⟨k2,0,none⟩))∧W.cell? ⟨g,i2*2+1,none⟩=some (.slice ma2 p2.length mc2)) 18 aw hS0 fun hS=>?_;generalize wc.drew=V0 at*;refine iO 0 55 (.pointer (some ⟨k,0,none⟩)) [] rfl rfl aw aw aw aw aw rfl aw (fun _ _ _ h=>h) rfl (fun _ _=>sX) hS ?_;simp only[tZ];refine iO 1 56 (.pointer (some ⟨w.heap.size,0,none⟩)) [2] rfl rfl aw aw aw aw aw rfl aw (fun _ _ _ h=>h) rfl (fun _ _=>sX) hS ?_;simp only[tZ];refine iO 2 57 (.int .i64 kind) [] rfl rfl aw aw aw aw aw rfl aw (fun _ _ _ h=>h) rfl (fun w' cQ=>IZ) hS ?_;simp only[tZ];refine iO 3 58 (.agg #[.pointer (some ⟨k1,0,none⟩),.slice ma p.length mc]) [] rfl rfl aw aw aw aw aw rfl aw (fun _ _ _ h=>h) rfl (fun w' cQ=>IZ) hS ?_;simp only[tZ];refine iO 4 59 (.pointer (some ⟨k,0,none⟩)) [17,16,7,6,5] rfl rfl aw aw aw aw aw rfl aw (fun _ _ _ h=>h) rfl (fun _ _=>sX) hS ?_;simp only[tZ];refine iO 5 60 (.pointer (some ⟨k,0,none⟩)) [17,16,7,6] rfl rfl aw aw aw aw aw rfl aw (fun _ _ _ h=>h) rfl (fun _ _=>sX) hS ?_;simp only[tZ];refine iO 6 61 (.pointer (some ⟨k,0,none⟩)) [17,16,7] rfl rfl aw aw aw aw aw rfl aw (fun _ _ _ h=>h) rfl (fun _ _=>sX) hS ?_;simp only[tZ];refine iO 7 62 (.slice (some ⟨g,0,none⟩) ps.length wq) [17,16] rfl rfl aw aw aw aw aw rfl aw (fun _ _ _ h=>h) rfl (fun w' cQ=>IZ) hS ?_;simp only[tZ];refine iO 8 63 (.pointer (some ⟨w.heap.size,2,none⟩)) [15,9] rfl rfl aw aw aw aw aw rfl aw (fun _ _ _ h=>h) rfl (fun _ _=>sX) hS ?_;simp only[tZ];refine iO 9 64 (.int .i64 b) [15] rfl rfl aw aw aw aw aw rfl aw (fun _ _ _ h=>h) rfl (fun w' cQ=>IZ) hS ?_;simp only[tZ];refine iO 10 65 (.pointer (some ⟨k,0,none⟩)) [15,14,13,12,11] rfl rfl aw aw aw aw aw rfl aw (fun _ _ _ h=>h) rfl (fun _ _=>sX) hS ?_;simp only[tZ];refine iO 11 66 (.pointer (some ⟨k,0,none⟩)) [15,14,13,12] rfl rfl aw aw aw aw aw rfl aw (fun _ _ _ h=>h) rfl (fun _ _=>sX) hS ?_;simp only[tZ];refine iO 12 67 (.pointer (some ⟨k,0,none⟩)) [15,14,13] rfl rfl aw aw aw aw aw rfl aw (fun _ _ _ h=>h) rfl (fun _ _=>sX) hS ?_;simp only[tZ];refine iO 13 68 (.slice (some ⟨g,0,none⟩) ps.length wq) [15,14] rfl rfl aw aw aw aw aw rfl aw (fun _ _ _ h=>h) rfl (fun w' cQ=>IZ) hS ?_;simp only[tZ];refine iO 14 69 (.int .i64 (ps.length:Int)) [15] rfl rfl aw aw aw aw aw rfl aw (fun _ _ _ h=>h) rfl (fun _ _=>sX) hS ?_;simp only[tZ];refine Ur 15 70 47 #[.int .i64 b,.int .i64 (ps.length:Int)] rfl rfl aw rfl a_ ?_;refine(as5.O V0).mono ?_;rintro en w8 ⟨rfl,rfl⟩;refine⟨_,rfl,fun _=>hS,?_⟩;simp only[tZ];refine iO 16 71 (.pointer (some ⟨g,i2*2,none⟩)) [17] rfl rfl aw aw aw aw aw rfl aw (fun _ _ _ h=>h) rfl (fun _ _=>sX) hS ?_;simp only[tZ];refine iO 17 72 (.agg #[.pointer (some ⟨k2,0,none⟩),.slice ma2 p2.length mc2]) [] rfl rfl aw aw aw aw aw rfl aw (fun _ _ _ h=>h) rfl (fun w' cQ=>IZ) hS ?_;simp only[tZ];refine Ur 18 73 18 #[.pointer (some ⟨k,0,none⟩),.int .i64 kind,.agg #[.pointer (some ⟨k1,0,none⟩),.slice ma p.length mc],.agg #[.pointer (some ⟨k2,0,none⟩),.slice ma2 p2.length mc2]] rfl rfl aw rfl a_ ?_;refine(HTW.O _ _ _ _ _ p p2 avy ar6 asx HKI.O).mono ?_;rintro en w9 ⟨sC,_⟩;obtain rfl:=HTV.O _ _ sC;refine⟨_,rfl,fun h0=>absurd h0 aE,?_⟩;simp only[tZ];refine amO 19 4 (.bool true) rfl rfl aw rfl rfl aw ?_;simp only[tZ];refine aib aw ?_ _;go_wp2;exact sC):P:=h
def T60{P:Prop}(h:P:=by simp only[tZ];refine nz [4,8] (xi 4 95 107 #[.agg #[.bool b4,.slice a4 n4 c4],.agg #[.bool pb,.slice xp np cp]] ?_ (kY 8 9 (.pointer (some ⟨V.heap.size,0,none⟩)) (V.alloc (Obj.cells #[.bool false,.slice none 0 0] 74)) (aT _ (hb.trans ((ai _ _).mono hb.size))) ?_ bX));refine(HQ.O _ _ h4 (hp6.E hb)).mono ?_;rintro e V ⟨x5,x6,rfl,h5,h6,hx⟩;obtain⟨b5,a5,n5,c5,_,rfl,_,_⟩:=id h5.open;obtain⟨b6,a6,n6,c6,_,rfl,_,_⟩:=id h6.open;have hb:=hb.tr hx;have XB:=XB.E hx;refine⟨_,rfl,aT _ hb,?_⟩;simp only[tZ];refine cf 5 90 (.tuple #[.agg #[.bool b5,.slice a5 n5 c5],.agg #[.bool b6,.slice a6 n6 c6]]) rfl (fun _ _=>rfl) (aT _ hb) ?_;simp only[tZ];refine cf 6 96 (.agg #[.bool b5,.slice a5 n5 c5]) rfl (fun _ _=>a_) (aT _ hb) ?_;simp only[tZ];refine cf 7 97 (.agg #[.bool b6,.slice a6 n6 c6]) rfl (fun _ _=>a_) (aT _ hb) ?_;exact avE;obtain⟨hx,XA⟩:=aI (w:=V) (a:=.bool false) (b:=.slice none 0 0) rfl;have gA:=hb.size;have aF:kB≠V.heap.size:=rA XB.lt;have hb:=hb.tr hx;have h4:=h4.E hx;have XB:=XB.E hx;clear hx;generalize V.heap.size=kA at*;exact T96):P:=h
def T61{P:Prop}(h:P:=by clear oH cC;clear wz;as_aux_lemma=>have CW:ms.length≤500:=ab;(have jx:(some wr.heap.size:Option Nat)≠(Value.slice la ms.length lc).ownBlock:=fun e=>by obtain⟨cur,hc⟩:=gz.list.gO _ e.symm;have:=bw hc;omega);have I_:wr.heap.size≠km:=ab;have Kb:km≠wr.heap.size:=ab;go_wp2_with fail;generalize uF:wr.alloc _=W5;have aV:Below wr.heap.size wr W5:=Cd;have X5:W5.heap[wr.heap.size]?=some (.cells #[.int .u8 43,.string ⟨D.toArray⟩,.int .i64 (at':Int)] 91 (0,0)):=aec;clear uF;have Af:=gz.E aV;refine(lH.O W5 (AL.E aV)).mono ?_;rintro en w5 ⟨x5,rfl,dP,DJ⟩;obtain⟨b5,a5,n5,c5,_,rfl,_,_⟩:=id dP.open;have eO:Below wr.heap.size wr w5:=aV.tr DJ;have M5:=M0.E eO;have X5':w5.heap[wr.heap.size]?=some (.cells #[.int .u8 43,.string ⟨D.toArray⟩,.int .i64 (at':Int)] 91 (0,0)):=acZ;have EE:(-c:Int).natAbs<10^201:=ac0;have mq:=(Af.E DJ).aaf dP EE true 1;have Ig:=Cw w5 km 0 1 (.bool b5) (.slice a5 n5 c5);have Mp:=M5.I9 (.bool b5) (.slice a5 n5 c5);have Xp:=(Ig.other wr.heap.size I_).trans X5';have vN:Below w.heap.size w ((w5.setCell ⟨km,0,none⟩ (.bool b5)).setCell ⟨km,1,none⟩ (.slice a5 n5 c5)):=((af.tr eO).setCell mH _).setCell mH _;have sK:=dP.kt M5 Ig;have se:=(AS.E eO).kt M5 Ig;have XW:((w5.setCell ⟨km,0,none⟩ (.bool b5)).setCell ⟨km,1,none⟩ (.slice a5 n5 c5)).heap.size=w5.heap.size:=Ig.size;have abi:km<w5.heap.size:=M5.lt;have q0:=M5.c0;have q1:=M5.c1;have q2:=M5.c2;have q3:=M5.c3;have o0:=M5.fr 0;have o1:=M5.fr 1;have o2:=M5.fr 2;have o3:=M5.fr 3;have Th:Hid _:=mq;have HMP:Hid _:=Mp;have Zf:Hid _:=Xp;have Fm:Hid _:=vN;have HIC:Hid _:=sK;have HIE:Hid _:=se;clear mq Mp Xp vN sK se m0 m1 m2 m3 n0 SB n2 n3;go_wp2_with(at_builtin;refine iZ rfl (.tmp 134) (.tmp 136) rfl (km+1) _ ms _ _ _ _ (-c) e _ ax rfl Th.O.list HIC.O HIE.O rfl ab aZ ?_);obtain mq:=Th.O;obtain Mp:=HMP.O;obtain Xp:=Zf.O;obtain vN:=Fm.O;clear q0 q1 q2 q3 o0 o1 o2 o3 Th HMP Zf Fm HIC HIE XW;intro v6 w6 bG bt Av;have Ae:=mq.words.lX Av mq.list;have M6:=lK.lX Mp Av mq.list (rW _);(have X6:w6.heap[wr.heap.size]?=some (.cells #[.int .u8 43,.string ⟨D.toArray⟩,.int .i64 (at':Int)] 91 (0,0)):=by rw[Av.block _ (bw Xp) jx];exact Xp);have jP:Below w.heap.size w w6:=vN.trans (bt.mono ab);have nJ:=mq.small.snoc CW EE mq.es;clear mq Mp Xp vN;go_wp2_with fail;refine(HO.O w6).mono ?_;rintro en w7 ⟨x7,rfl,kX,dL⟩;obtain⟨b7,a7,n7,c7,_,rfl,_,_⟩:=id kX.open;have M7:=M6.E dL;have X7:w7.heap[wr.heap.size]?=some (.cells #[.int .u8 43,.string ⟨D.toArray⟩,.int .i64 (at':Int)] 91 (0,0)):=IS;have cw:w7.cell? ⟨wr.heap.size,0,none⟩=some (.int .u8 43):=JT;exact asN):P:=h
def T62{P:Prop}(h:P:=by generalize V.alloc (Obj.cells #[.bool false,.slice none 0 0] 105)=V at*;simp only[tZ];refine nz [5] (xi 5 48 106 #[.agg #[.bool b1,.slice xa xn xc],.agg #[.bool gb,.slice ga gn gc]] ?_ bX);refine(HQ.O _ (bC.E hb) (cJ.E hb)).mono ?_;rintro e V ⟨x5,x6,rfl,h5,h6,hx⟩;obtain⟨b5,a5,n5,c5,rfl⟩:=h5.form;obtain⟨b6,a6,n6,c6,rfl⟩:=h6.form;have hb:=hb.tr hx;have XA:=XA.E hx;have XB:=XB.E hx;refine⟨_,rfl,aT _ hb,?_⟩;simp only[tZ];refine cf 6 42 (.tuple #[.agg #[.bool b5,.slice a5 n5 c5],.agg #[.bool b6,.slice a6 n6 c6]]) rfl (fun _ _=>rfl) (aT _ hb) ?_;simp only[tZ];refine cf 7 49 (.agg #[.bool b5,.slice a5 n5 c5]) rfl (fun _ _=>a_) (aT _ hb) ?_;simp only[tZ];refine cf 8 50 (.agg #[.bool b6,.slice a6 n6 c6]) rfl (fun _ _=>a_) (aT _ hb) ?_;exact an2):P:=h
def T63{P:Prop}(h:P:=by simp only[tZ];refine nz [17] (kY 17 8 (.pointer (some ⟨V.heap.size,0,none⟩)) (V.alloc (Obj.cells #[.bool false,.slice none 0 0] 74)) (aT _ (hb.trans ((ai _ _).mono hb.size))) ?_ bX);obtain⟨hx,XB⟩:=aI (w:=V) (a:=.bool false) (b:=.slice none 0 0) rfl;have gB:=hb.size;have aF:V.heap.size≠kA:=rG XA.lt;have hb:=hb.tr hx;have h5:=h5.E hx;have h6:=h6.E hx;have XA:=XA.E hx;clear hx;generalize V.heap.size=kB at*;exact asX):P:=h
def T64{P:Prop}(h:P:=by simp only[tZ];refine nz [10] (kY 10 7 (.pointer (some ⟨V.heap.size,0,none⟩)) (V.alloc (Obj.cells #[.bool false,.slice none 0 0] 105)) (aT _ (hb.trans ((ai _ _).mono hb.size))) ?_ bX);obtain⟨hx,XB⟩:=aG (w:=V) (a:=.bool false) (b:=.slice none 0 0) rfl;have gB:=hb.size;exact asL):P:=h
def T65{P:Prop}(h:P:=by rcases zL with⟨rfl,rfl,rfl⟩|⟨rfl,rfl,rfl⟩|⟨hde,rfl,rfl⟩|⟨hde,rfl,rfl⟩;all_goals go_wp2_with fail;generalize hW:wr.alloc _=W1;obtain⟨aB,X0⟩:=aI hW;clear hW;refine(HS.O W1 (hI.E aB)).mono ?_;rintro e w1 ⟨rfl,ay⟩;have X1:=X0.E ay;have c0:=X1.c0;have c1:=X1.c1;have bC:=(hI.E aB).E ay;have g_:=af.trans ((aB.tr ay).mono af.size);go_wp2_with fail;refine(HO.O w1).mono ?_;rintro e w2 ⟨v2,rfl,cJ,aC⟩;go_wp2_with fail;refine(Ih.O w2 v2 cJ).mono ?_;rintro e w3 ⟨rfl,aK⟩;have X3:=(X1.E aC).E aK;have d0:=X3.c0;have d1:=X3.c1;have cU:=(bC.E aC).E aK;have dq:=(g_.tr aC).trans (aK.mono afg);go_wp2_with fail;refine(HA.O w3 cU).mono ?_;rintro e w4 ⟨v4,rfl,kC,bU⟩;go_wp2_with fail;refine(HT.O w4 v4 kC).mono ?_;rintro e w5 ⟨rfl,aV⟩;have fT:=(dq.tr bU).trans (aV.mono (by have:=dq.size;have:=bU.size;omega));go_wp2_with fail;go_roundw;(case rel=>exact⟨j,m+1,_,ab,rfl,Ty,ab,gR,fT⟩);case measure=>simp[intOf]):P:=h
def T66{P:Prop}(h:P:=by
 have gE:Hid (fw s.size (ws.drop (k+1)) ⟨ms,c,1,neg,4⟩=R):=by have:=oH.O;rw[cC]at this;exact this
 clear oH cC;clear lH wz;go_wp2_with fail;generalize uF:wr.alloc _=W5;have aV:Below wr.heap.size wr W5:=Cd;clear uF;have Af:=gz.E aV;refine(HO.O W5).mono ?_;rintro en w6 ⟨x6,rfl,gM,bt⟩;obtain⟨b6,a6,n6,c6,_,rfl,_,_⟩:=id gM.open;have Lg:=Af.E bt;have dR:Below wr.heap.size wr w6:=aV.tr bt;have M6:=M0.E dR;have q0:=M6.c0;have q1:=M6.c1;have q2:=M6.c2;have q3:=M6.c3;have o0:=M6.fr 0;have o1:=M6.fr 1;have o2:=M6.fr 2;have o3:=M6.fr 3;have LP:=Lg.als (z:=1) gM nE neg 4;have HR7:Hid _:=LP;clear LP;go_wp2;refine jn ?rel ?measure;case rel=>exact⟨k+1,⟨ms,c,1,neg,4⟩,ab,by go_num,rfl,rfl,(by decide:(4:Nat)≤6),Jj,HR7.O,gE,((af.tr dR).setCell mH _).setCell mH _⟩
 case measure=>simp[intOf];omega):P:=h
def T67{P:Prop}(h:P:=by obtain⟨cs,h1,h2,h3⟩:=h;rcases h2.2 with⟨_,h'⟩|⟨g,cap,cur,hv,hB,hg,kj,mz,_⟩;omega;simp only[jD,h_]at hv;obtain⟨rfl,rfl⟩:=hv;have hp:cs[i]?=some cs[i]:=cj ab;obtain⟨e1,e2⟩:=xX cs i _ hp;have hI:=h3 i _ hp;(obtain⟨xa,xn,xc,hx⟩:∃xa xn xc,cs[i].2=.slice xa xn xc:=by obtain⟨b',x',l,e,hr,_⟩:=hI;obtain⟨xa,xc,hx⟩:=hr.val;simp[vOf]at e;exact⟨xa,_,xc,e.2.trans hx⟩);unfold vOf at hI;rw[hx]at hI e2;refine⟨g,cs[i].1,xa,xn,xc,rfl,kj,mz,(gf.1 hg).1,hB,?_,?_,hI⟩;rw[h2.cellAt (i*2) ab];exact e1;rw[h2.cellAt (i*2+1) ab];exact e2):P:=h
def T68{P:Prop}(h:P:=by
 have HLN:Hid (sl.length+1≤20∧q/10<10^(20-(sl.length+1))):=by have h:=HLQ.O;rcases(show sl.length=20∨sl.length<20 by omega)with h1|h1;rw[h1]at h;simp at h;omega;refine⟨ab,?_⟩;rw[show 20-sl.length=(20-(sl.length+1))+1 by omega,e_]at h;omega
 have HS:Hid _:=hs;clear hs HI;go_wp2_with(at_builtin;refine eN rfl (.tmp 12) (.tmp 15) rfl W0.heap.size _ sl _ rfl aj rfl ab af.size ?_);intro v' w1 cH ay _;go_wp2;go_roundw;case rel=>exact⟨q/10,_,by go_num,cH,⟨by simpa using HLN.O.1,by simpa using HLN.O.2,ab⟩,HS,af.trans ay⟩
 case measure=>simp[intOf];omega):P:=h
def T69{P:Prop}(h:P:=by rintro v10 uP ⟨ab9,ab0⟩;refine⟨trivial,?_⟩;simp only[tZ];have fE:Below w9.heap.size w9 uP:=(aL _ _).grown ab0 (al _) (fun k hk=>rV);have Jb:=Hb.trans ((lZ.tr fE).mono Hb.size);refine bh 11 7 (v10) hS ?_;simp only[tZ];refine eH aw ?_ _;have hS9:=R9 uP v10 Jb ⟨_,ab9⟩;have lZ:=mC.tr Jb;have hA9:=hA6.E lZ;have ard:=atQ.tr lZ;clear R1 R2 R5 R6 R7 R8 R9 Sg Za ab9 ab0 kV;go_wp2;go_roundw;(case rel=>exact⟨n+1,_,_,by go_num,ab,hA9,hS9,HA9,HS9,ard⟩);case measure=>simp[intOf];omega):P:=h
def T70{P:Prop}(h:P:=by rw[xy]at gR qF;have HS:Hid _:=hS;clear HE HZ xy hjm hS;go_wp2_with fail;generalize hW:wr.alloc (Obj.cells #[.bool b,.slice xa xn xc] 74)=W1;obtain⟨aB,X0⟩:=aI hW;clear hW;refine(HS.O W1 (hI.E aB)).mono ?_;rintro e w1 ⟨rfl,ay⟩;have g_:=af.trans ((aB.tr ay).mono af.size);go_wp2_with fail;go_roundw;(case rel=>exact⟨j,m+1,d,ab,rfl,rfl,ab,gR,g_⟩);case measure=>simp[intOf]):P:=h
def T71{P:Prop}(h:P:=by go_wp2_with fail;refine hc.mono ?_;rintro e w1 ⟨rfl,rfl⟩;go_wp2_with fail;refine(HM.O _ _ ab ab).mono ?_;rintro e w1 ⟨rfl,rfl⟩;go_wp2_with(at_builtin;refine eN rfl (.tmp 30) (.tmp 34) rfl w.heap.size _ L _ rfl aj rfl ab af.size ?_);intro v4 w4 cS bU _;rw[←HL.O,←ajG.O]at cS;go_wp2;go_roundw;(case rel=>exact⟨j+1,ab,by go_num,cS,af.trans bU⟩);case measure=>simp[intOf];omega):P:=h
def T72{P:Prop}(h:P:=by refine⟨cs,h1,⟨h2.1,?_⟩,fun i p hp=>?_⟩;rcases h2.2 with h1|⟨k,cap,cur,hv,aB,hk,r⟩;exact .inl h1;exact .inr ⟨k,cap,cur,hv,aB,aF k _ _ _ hk aE,r⟩;obtain⟨b,x,l,e,hr,hl⟩:=h3 i p hp;refine⟨b,x,l,e,⟨hr.1,?_⟩,hl⟩;rcases hr.2 with h1|⟨k,cap,cur,hv,aB,hk,r⟩;exact .inl h1;exact .inr ⟨k,cap,cur,hv,aB,aF k _ _ _ hk aE,r⟩):P:=h
def T73{P:Prop}(h:P:=by have oA:=qX.tr lZ;refine⟨_,rfl,⟨(K0.E oA).c0,(K0.E oA).c1⟩,?_⟩;simp only[tZ];refine r7 6 4 (.slice a9 S.length c9) (w':=w9) rfl rfl aw rfl rfl ⟨(K0.E oA).c0,(K0.E oA).c1⟩ ?_;simp only[tZ];refine eH aw ?_ _;go_wp2;go_ret;exact⟨_,rfl,uW,af.tr oA⟩):P:=h
def T74{P:Prop}(h:P:=by have aB:=ai w (Obj.cells #[.pointer (some ⟨k1,0,none⟩),.slice a1 p.length c1] 35);generalize w.alloc (Obj.cells #[.pointer (some ⟨k1,0,none⟩),.slice a1 p.length c1] 35)=W0 at*;refine(HP.O W0).mono ?_;rintro en w1 ⟨rfl,ay⟩;go_wp2;go_ret;exact Hu.O w1 (aB.tr ay)):P:=h
def T75{P:Prop}(h:P:=by clear r0 r1 r2 r3 G3 B3 cU dq aK;generalize(w3.setCell ⟨w.heap.size+1,0,none⟩ (.bool b3)).setCell ⟨w.heap.size+1,1,none⟩ (.slice a3 n3 c3)=W4 at*;refine eH aw ?_ _;go_wp2;go_roundw;(case rel=>exact⟨k+1,ab,by go_num,lh,KY,bU⟩);case measure=>simp[intOf];omega):P:=h
def T76{P:Prop}(h:P:=by rcases h.2 with⟨h1,_⟩|⟨g',cap,cur,hv,hb,hg,kj,mz,sQ,ht⟩;cases h1;simp only[jD,h_,Option.some.injEq,Addr.mk.injEq,and_true]at hv;obtain⟨rfl,rfl⟩:=hv;exact⟨cur,hg,by simpa using sQ,hb,kj,mz,by simpa using ht⟩):P:=h
def T77{P:Prop}(h:P:=by refine bI (v:=.bool false) rfl (fun w' cQ=>a_) ?_;simp only[tZ];refine FG ?_;intro w3 aK;go_wp2_with fail;go_roundw;(case rel=>exact⟨k+1,ab,by go_num,kC.E aK,gE,af.tr aK⟩);case measure=>simp[intOf];omega):P:=h
def T78{P:Prop}(h:P:=by
 refine⟨hb,[(b,y)],rfl,⟨rfl,.inr ⟨w.heap.size,1,#[.bool b,y],rfl,aU _,fL w _,al _,oT,rfl,rfl⟩⟩,fun i p hp=>?_⟩;cases i with
 |zero=>simp at hp;subst hp;exact hz.E hb
 |succ i=>simp at hp):P:=h
def T79{P:Prop}(h:P:=by
 show(!(ez (s.data.toList.drop (eW s.data.toList n))).isEmpty)=_;rw[HK0.O,Bool.eq_iff_iff];have h2:=fh.2;cases DH:ez (s.data.toList.drop k0)with
 |nil=>rw[DH]at h2;simp at h2 ⊢;omega
 |cons a b=>rw[DH]at h2;simp at h2 ⊢;omega):P:=h
def T80{P:Prop}(h:P:=by refine⟨h.1,?_⟩;rcases h.2 with h1|⟨g,cap,cur,hv,aB,hg,r⟩;exact .inl h1;exact .inr ⟨g,cap,cur,hv,aB,Tm,r⟩):P:=h
def T81{P:Prop}(h:P:=by have h2:0<10^(e+f):=du ab;have h3:n*10^(e+f)<10000*10^(e+f):=YH hn h2;rw[iE,Bc];exact fe h1 h3):P:=h
def T82{P:Prop}(h:P:=by intro v6 w6 bG bt _;rw[←HL.O,←si.O]at bG;go_wp2;go_roundw;(case rel=>exact⟨k+1,ab,by go_num,bG,fT.trans bt⟩);case measure=>simp[intOf];omega):P:=h
def T83{P:Prop}(h:P:=by obtain⟨g,rfl,_,_,_,hc⟩:=hn.at i h1;obtain⟨g',hg,_,_,_,ov⟩:=hn'.at i h2;simp at hg;subst hg;rw[bQ h1]at hc;rw[bQ h2,hc]at ov;simpa using ov):P:=h
def T84{P:Prop}(h:P:=by rw[he];clear he e1 e2 p1 p2 n1 n2 td;go_enter func91,ntmps91;go_wp2;go_ret;exact⟨rfl,((aL _ _).alloc (al _) _).alloc ax _⟩):P:=h
def T85{P:Prop}(h:P:=by rw[Fg]at hj;simp at hj;subst hj;(have uY:(zs++[z]).getD j 0=z:=by rw[show j=zs.length by omega];simp[List.getD]);rw[uY];exact hz.kept hg jq):P:=h
def T86{P:Prop}(h:P:=by rcases h2.2 with h|⟨g,cap,cur,hv,hB,hg,r⟩;exact .inl h;exact .inr ⟨g,cap,cur,hv,hB,by rw[hs g WU];exact hg,r⟩):P:=h
def T87{P:Prop}(h:P:=by have h1:Di p (fun t=>ev t u) (pA (fs U)):=Pm (fs U) _ (nI U) (ko.2 ⟨u,hu,rfl⟩);exact(h1.mul (Po.const c)).alike h.eq):P:=h
def T88{P:Prop}(h:P:=by have h1:(N-(n+1)+1)*(f+1)≤N*(f+1):=dt ab (al _);rw[nN]at h1;have:=HE.O;omega):P:=h
def T89{P:Prop}(h:P:=by rw[←HZ.O];exact l7 (vd ab dm dl ab j ab HD.O.symm Ys)):P:=h
def T90{P:Prop}(h:P:=by rw[e_,iE];have h4:0<10^e*10^f:=Nat.mul_pos (du ab) (du ab);omega):P:=h
def T91{P:Prop}(h:P:=by rcases aX m.length l.length with h|h;have:=df ab h2.iA h1.iA h1.trim h;omega;exact h):P:=h
def T92{P:Prop}(h:P:=by refine⟨h.1.snoc ab ab,?_⟩;rw[dC,dC,hx,hy];exact RX sl k qF cy x y _ _ h.2):P:=h
def T93{P:Prop}(h:P:=by have h1:=HK.O;unfold lex at h1;exact⟨fun h=>by rwa[aA h]at h1,fun h=>by rwa[az h]at h1⟩):P:=h
def T94{P:Prop}(h:P:=by clear oH cC;clear wz;as_aux_lemma=>have CW:ms.length≤500:=ab;(have jx:(some wr.heap.size:Option Nat)≠(Value.slice la ms.length lc).ownBlock:=fun e=>by obtain⟨cur,hc⟩:=gz.list.gO _ e.symm;have:=bw hc;omega);have I_:wr.heap.size≠km:=ab;have Kb:km≠wr.heap.size:=ab;go_wp2_with fail;generalize uF:wr.alloc _=W5;have aV:Below wr.heap.size wr W5:=Cd;have X5:W5.heap[wr.heap.size]?=some (.cells #[.int .u8 45,.string ⟨D.toArray⟩,.int .i64 (at':Int)] 91 (0,0)):=aec;clear uF;have Af:=gz.E aV;refine(lH.O W5 (AL.E aV)).mono ?_;rintro en w5 ⟨x5,rfl,dP,DJ⟩;obtain⟨b5,a5,n5,c5,_,rfl,_,_⟩:=id dP.open;have eO:Below wr.heap.size wr w5:=aV.tr DJ;have M5:=M0.E eO;have X5':w5.heap[wr.heap.size]?=some (.cells #[.int .u8 45,.string ⟨D.toArray⟩,.int .i64 (at':Int)] 91 (0,0)):=acZ;have EE:(-c:Int).natAbs<10^201:=ac0;have mq:=(Af.E DJ).aaf dP EE true 1;have Ig:=Cw w5 km 0 1 (.bool b5) (.slice a5 n5 c5);have Mp:=M5.I9 (.bool b5) (.slice a5 n5 c5);have Xp:=(Ig.other wr.heap.size I_).trans X5';have vN:Below w.heap.size w ((w5.setCell ⟨km,0,none⟩ (.bool b5)).setCell ⟨km,1,none⟩ (.slice a5 n5 c5)):=((af.tr eO).setCell mH _).setCell mH _;have sK:=dP.kt M5 Ig;have se:=(AS.E eO).kt M5 Ig;have XW:((w5.setCell ⟨km,0,none⟩ (.bool b5)).setCell ⟨km,1,none⟩ (.slice a5 n5 c5)).heap.size=w5.heap.size:=Ig.size;have abi:km<w5.heap.size:=M5.lt;have q0:=M5.c0;have q1:=M5.c1;have q2:=M5.c2;have q3:=M5.c3;have o0:=M5.fr 0;have o1:=M5.fr 1;have o2:=M5.fr 2;have o3:=M5.fr 3;have Th:Hid _:=mq;have HMP:Hid _:=Mp;have Zf:Hid _:=Xp;have Fm:Hid _:=vN;have HIC:Hid _:=sK;have HIE:Hid _:=se;clear mq Mp Xp vN sK se m0 m1 m2 m3 n0 SB n2 n3;go_wp2_with(at_builtin;refine iZ rfl (.tmp 134) (.tmp 136) rfl (km+1) _ ms _ _ _ _ (-c) e _ ax rfl Th.O.list HIC.O HIE.O rfl ab aZ ?_);obtain mq:=Th.O;obtain Mp:=HMP.O;obtain Xp:=Zf.O;obtain vN:=Fm.O;clear q0 q1 q2 q3 o0 o1 o2 o3 Th HMP Zf Fm HIC HIE XW;intro v6 w6 bG bt Av;have Ae:=mq.words.lX Av mq.list;have M6:=lK.lX Mp Av mq.list (rW _);(have X6:w6.heap[wr.heap.size]?=some (.cells #[.int .u8 45,.string ⟨D.toArray⟩,.int .i64 (at':Int)] 91 (0,0)):=by rw[Av.block _ (bw Xp) jx];exact Xp);have jP:Below w.heap.size w w6:=vN.trans (bt.mono ab);have nJ:=mq.small.snoc CW EE mq.es;clear mq Mp Xp vN;go_wp2_with fail;refine(HO.O w6).mono ?_;rintro en w7 ⟨x7,rfl,kX,dL⟩;obtain⟨b7,a7,n7,c7,_,rfl,_,_⟩:=id kX.open;have M7:=M6.E dL;have X7:w7.heap[wr.heap.size]?=some (.cells #[.int .u8 45,.string ⟨D.toArray⟩,.int .i64 (at':Int)] 91 (0,0)):=IS;have cw:w7.cell? ⟨wr.heap.size,0,none⟩=some (.int .u8 45):=JT;have r0:=M7.c0;have r1:=M7.c1;have r2:=M7.c2;have r3:=M7.c3;have s0:=M7.fr 0;have s1:=M7.fr 1;have s2:=M7.fr 2;have s3:=M7.fr 3;have hS:=Oc w7 km (.bool b7) (.slice a7 n7 c7) (.bool false) (.slice none 0 0);have Lm:Bk B2 km (.slice (some ⟨g,0,none⟩) ws.length wc) v6 ws ((((w7.setCell ⟨km,0,none⟩ (.bool b7)).setCell ⟨km,1,none⟩ (.slice a7 n7 c7)).setCell ⟨km,2,none⟩ (.bool false)).setCell ⟨km,3,none⟩ (.slice none 0 0)) ⟨ms++[(-c,e)],1,0,true,1⟩:=⟨(Ae.E dL).kt M7 hS,(bG.E dL).kt (rW _) M7 hS,⟨_,_,_,_,_,_,_,_,M7.LR _ _ _ _,kX.kt M7 hS,iU⟩,nJ,nE,du ab⟩;have HR8:Hid _:=Lm;have uX:=jP.tr dL;clear Lm;go_wp2;refine jn ?rel ?measure;(case rel=>exact⟨k+1,⟨ms++[(-c,e)],1,0,true,1⟩,ab,by go_num,rfl,rfl,(by decide:(1:Nat)≤6),XL,HR8.O,gE,(((uX.setCell mH _).setCell mH _).setCell mH _).setCell mH _⟩);case measure=>simp[intOf];omega):P:=h
def T95{P:Prop}(h:P:=by generalize V.alloc (Obj.cells #[.bool false,.slice none 0 0] 74)=V at*;simp only[tZ];refine nz [2] (xi 2 93 130 #[.agg #[.bool db,.slice xd nd cd],.agg #[.bool vb,.slice xv nv cv]] ?_ bX);refine(HS.O _ (hd6.E hb) (Y_.E hb)).mono ?_;rintro e V ⟨x4,rfl,h4,hx⟩;obtain⟨b4,a4,n4,c4,_,rfl,_,_⟩:=id h4.open;have hb:=hb.tr hx;have XA:=XA.E hx;have XB:=XB.E hx;refine⟨_,rfl,aT _ hb,?_⟩;exact avQ):P:=h
def T96{P:Prop}(h:P:=by generalize V.alloc (Obj.cells #[.bool false,.slice none 0 0] 74)=V at*;exact avQ):P:=h
def T97{P:Prop}(h:P:=by simp only[tZ];refine nz [16] (kY 16 7 (.pointer (some ⟨V.heap.size,0,none⟩)) (V.alloc (Obj.cells #[.bool false,.slice none 0 0] 74)) (aT _ (hb.trans ((ai _ _).mono hb.size))) ?_ bX);obtain⟨hx,XA⟩:=aI (w:=V) (a:=.bool false) (b:=.slice none 0 0) rfl;have gA:=hb.size;have aF:kB≠V.heap.size:=rA XB.lt;have hb:=hb.tr hx;have h5:=h5.E hx;have h6:=h6.E hx;have XB:=XB.E hx;clear hx;generalize V.heap.size=kA at*;exact asX):P:=h
def T98{P:Prop}(h:P:=by
 have r0:=S12.c0;have r1:=S12.c1;have r2:=S12.f0;have r3:=S12.f1;have amC:=ee.stored S12 rj;have acG:=YM.other S12 (show w.heap.size≠k6 by omega) (.bool b12) (.slice a12 n12 S4);have acB:=ar acd (show w.heap.size≤k6 by omega) (.bool b12) (.slice a12 n12 S4);have yq:ak (w.heap.size+1) ((sE.setCell ⟨k6,0,none⟩ (.bool b12)).setCell ⟨k6,1,none⟩ (.slice a12 n12 S4)) (.slice oa LL.length oc) LL:=SX.boxed S12 atw _ _;have fD:Hid _:=(⟨amC,acG,acB,yq⟩:_∧_∧_∧_);have aoq:=rj.cK S12 (.bool b12) (.slice a12 n12 S4);have aow:((sE.setCell ⟨k6,0,none⟩ (.bool b12)).setCell ⟨k6,1,none⟩ (.slice a12 n12 S4)).heap.size=sE.heap.size:=xm;have hsw:w.heap.size+1≤sE.heap.size:=by have:=YM.lt;omega
 have aav:Hid _:=(⟨aoq,aow⟩:_∧_);clear amC acG acB yq aoq aow;go_wp2_with(at_builtin;refine dV rfl (.tmp 49) (.tmp 51) rfl (w.heap.size+1) _ LL _ _ _ rfl fD.O.2.2.2 aav.O.1 (by rw[aav.O.2];rfl) ab (by rw[aav.O.2];exact hsw) ?_);intro v20 w20 BK ahz Yv;rw[←HNR.O,←RM.O]at BK;have Wn:=fD.O.2.1.Es Yv (fun e=>by have:=fD.O.2.2.2.block _ e.symm;omega) fD.O.2.2.2.gO;have amv:=fD.O.2.2.1.trans (ahz.mono ab);clear fD aav r0 r1 r2 r3;go_wp2;go_roundw;case rel=>exact⟨k+1,ab,by go_num,BK,Wn,amv⟩
 case measure=>simp[intOf];omega):P:=h
def T99{P:Prop}(h:P:=by simp only[tZ];refine nz [9] (kY 9 6 (.pointer (some ⟨V.heap.size,0,none⟩)) (V.alloc (Obj.cells #[.bool false,.slice none 0 0] 105)) (aT _ (hb.trans ((ai _ _).mono hb.size))) ?_ bX);obtain⟨hx,XA⟩:=aG (w:=V) (a:=.bool false) (b:=.slice none 0 0) rfl;have gA:=hb.size;exact atj):P:=h
def asN{P:Prop}(h:P:=by have r0:=M7.c0;have r1:=M7.c1;have r2:=M7.c2;have r3:=M7.c3;have s0:=M7.fr 0;have s1:=M7.fr 1;have s2:=M7.fr 2;have s3:=M7.fr 3;have hS:=Oc w7 km (.bool b7) (.slice a7 n7 c7) (.bool false) (.slice none 0 0);have Lm:Bk B2 km (.slice (some ⟨g,0,none⟩) ws.length wc) v6 ws ((((w7.setCell ⟨km,0,none⟩ (.bool b7)).setCell ⟨km,1,none⟩ (.slice a7 n7 c7)).setCell ⟨km,2,none⟩ (.bool false)).setCell ⟨km,3,none⟩ (.slice none 0 0)) ⟨ms++[(-c,e)],1,0,false,1⟩:=⟨(Ae.E dL).kt M7 hS,(bG.E dL).kt (rW _) M7 hS,⟨_,_,_,_,_,_,_,_,M7.LR _ _ _ _,kX.kt M7 hS,iU⟩,nJ,nE,du ab⟩;have HR8:Hid _:=Lm;have uX:=jP.tr dL;clear Lm;go_wp2;refine jn ?rel ?measure;(case rel=>exact⟨k+1,⟨ms++[(-c,e)],1,0,false,1⟩,ab,by go_num,rfl,rfl,(by decide:(1:Nat)≤6),XL,HR8.O,gE,(((uX.setCell mH _).setCell mH _).setCell mH _).setCell mH _⟩);case measure=>simp[intOf];omega):P:=h
def ave{P:Prop}(h:P:=by subst h1;rcases zL with⟨rfl,rfl,rfl⟩|⟨rfl,rfl,rfl⟩|⟨hde,rfl,rfl⟩|⟨hde,rfl,rfl⟩;all_goals go_wp2_with fail;generalize hW:wr.alloc _=W1;obtain⟨aB,X0⟩:=aI hW;clear hW;refine(HS.O W1 (hI.E aB)).mono ?_;rintro e w1 ⟨rfl,ay⟩;have X1:=X0.E ay;have c0:=X1.c0;have c1:=X1.c1;have bC:=(hI.E aB).E ay;have g_:=af.trans ((aB.tr ay).mono af.size);go_wp2_with fail;refine(HA.O w1 bC).mono ?_;rintro e w4 ⟨v4,rfl,kC,bU⟩;go_wp2_with fail;refine(HT.O w4 v4 kC).mono ?_;rintro e w5 ⟨rfl,aV⟩;have fT:=(g_.tr bU).trans (aV.mono afR);go_wp2_with fail;go_roundw;(case rel=>exact⟨1,m+1,_,ab,rfl,Ty,ab,gR,fT⟩);case measure=>simp[intOf]):P:=h
def aq5{P:Prop}(h:P:=by have asi:(cl==48)=false:=uM.O 48 AV;exact awD):P:=h
def awN{P:Prop}(h:P:=by have jf:=X1.E aC;have r3:=jf.c0;have r4:=jf.c1;have g3:=jf.f0;have g4:=jf.f1;go_wp2;refine cE (v:=.agg #[.bool (!b&&!t.isEmpty),.slice xa t.length xc]) (by simp[results,results54,go_sem,r3,r4]) rfl ⟨_,rfl,⟨_,_,t,rfl,mj.cK jf _ _,?_⟩,ar (aB.tr aC) ab _ _⟩;have:=jR.signed (b:=!b) nC uo;rw[zR.O]at this;rw[h1.val];(have e:-sv b (ev 10 l)=sv (!b) (ev 10 l):=by cases b<;>simp[sv]);rw[e];exact this):P:=h
def atq{P:Prop}(h:P:=by rintro v10 uP ⟨ab9,ab0⟩;refine⟨trivial,?_⟩;simp only[tZ];have fE:Below w9.heap.size w9 uP:=(aL _ _).grown ab0 (al _) (fun k hk=>rV);have Jb:=Hb.trans ((lZ.tr fE).mono Hb.size);refine bh 11 6 (v10) hS ?_;simp only[tZ];refine eH aw ?_ _;go_wp2_with fail;go_meet;case rel=>exact⟨R9 uP v10 Jb ⟨_,ab9⟩,mC.tr Jb⟩):P:=h
def ajY{P:Prop}(h:P:=by
 obtain rfl:m=zs.length:=ab;have hT:T=if d=[]then[48]else d:=by rw[←Zs.O];unfold gG;rw[HE.O]
 by_cases hd:d=[];·subst hd;rw[aA rfl]at hT;subst hT;clear HE Zs;go_wp2;go_ret;exact⟨rfl,af⟩
 ·rw[az hd]at hT;subst hT;(have Z7:T.isEmpty=false:=by cases T with|nil=>exact absurd rfl hd|cons a b=>rfl);clear HE Zs;go_wp2;go_ret;exact⟨rfl,af⟩):P:=h
def at1{P:Prop}(h:P:=by obtain⟨i,hi⟩:=vA hl;have aM:i<U.length:=VK;obtain⟨q1,q2,_⟩:=h.Sd i l _ hi (cj aM);have hul:=(hs.mem U[i] (jl aM)).1.len;exact⟨q2,ab⟩):P:=h
def aus{P:Prop}(h:P:=by obtain⟨cs,h1,h2,h3⟩:=h;refine⟨cs,h1,⟨h2.1,?_⟩,fun i p hp=>(h3 i p hp).E hb⟩;rcases h2.2 with h|⟨g,cap,cur,hv,hB,hg,r⟩;exact .inl h;exact .inr ⟨g,cap,cur,hv,hB,Tm,r⟩):P:=h
def arO{P:Prop}(h:P:=by rcases h.form with⟨h1,rfl⟩|⟨g,cap,h1,h2,h3,h5,h4⟩;simp at hi;simp only[jD]at h1;obtain⟨rfl,_,rfl⟩:=h1;exact⟨g,rfl,h2,h3,h5,h4 i hi⟩):P:=h
def atS{P:Prop}(h:P:=by(have h1:b.getD (b.length-1) 0≠0:=by refine ht _ ?_;rw[List.getLast?_eq_getElem?,bQ (show b.length-1<b.length by omega)];exact cj ab);omega):P:=h
def att{P:Prop}(h:P:=by go_wp2_with fail;refine hT.mono ?_;rintro e w1 ⟨x1,rfl,bC,ay⟩;obtain⟨a1,c1,rfl⟩:=ah.val bC;go_wp2;go_ret;exact⟨_,rfl,bC.nD,af.tr ay⟩):P:=h
def avH{P:Prop}(h:P:=by go_wp2_with fail;refine(HK.O w3 x m er f ed (F6 EY ml Zk YO)).mono ?_;rintro en w4 sC;have CV:=sC;rw[zC.O]at CV;obtain⟨rfl,_⟩:=CV;go_wp2;exact sC):P:=h
def as8{P:Prop}(h:P:=by rw[aM];refine⟨Xo,.inr ⟨g,n,_,rfl,hB,zE,al _,mz,?_,?_⟩⟩;simp;omega;rw[gT];simp;omega):P:=h
def awn{P:Prop}(h:P:=by have h6:¬max xs.length ys.length<ys.length:=ab;obtain⟨oa,oc,rfl⟩:=ak.val aj;go_wp2;go_ret;exact⟨_,rfl,aj,af⟩):P:=h
def asv{P:Prop}(h:P:=by have:=HG.O;unfold Int.gcd at this;exact(by unfold Int.gcd;simpa using this:Int.gcd (z1.natAbs:Int) (z2.natAbs:Int)=g)):P:=h
def Qk{P:Prop}(h:P:=by rcases j5 (j-cs.length)with h0|h0;exact h0;rw[dF aZ]at hj;simp at hj):P:=h
def aq8{P:Prop}(h:P:=by rw[←HZ.O];exact l5 (vd ab dl dm ab j ab HD.O Ys)):P:=h
def auu{P:Prop}(h:P:=by show z_ _ n t*(if n=n then ev t g else d n t)=_;rw[aA rfl,Ey (d':=d) n fun k hk=>az ab]):P:=h
def aqC{P:Prop}(h:P:=by show eW s.data.toList n+(ez (s.data.toList.drop (eW s.data.toList n))).length=_;rw[HK0.O];exact fh.2.symm):P:=h
def akX{P:Prop}(h:P:=by clear oH cC;clear wz;as_aux_lemma=>have CW:ms.length≤500:=ab;(have jx:(some wr.heap.size:Option Nat)≠(Value.slice la ms.length lc).ownBlock:=fun e=>by obtain⟨cur,hc⟩:=gz.list.gO _ e.symm;have:=bw hc;omega);have I_:wr.heap.size≠km:=ab;have Kb:km≠wr.heap.size:=ab;clear lH;have mq:=gz.E (ai wr (Obj.cells #[.int IntKind.u8 46,.string ⟨D.toArray⟩,.int IntKind.i64 (s.size:Int)] 91));have Mp:=M0.E (ai wr (Obj.cells #[.int IntKind.u8 46,.string ⟨D.toArray⟩,.int IntKind.i64 (s.size:Int)] 91));have Xp:(wr.alloc (Obj.cells #[.int IntKind.u8 46,.string ⟨D.toArray⟩,.int IntKind.i64 (s.size:Int)] 91)).heap[wr.heap.size]?=some (.cells #[.int .u8 46,.string ⟨D.toArray⟩,.int .i64 (s.size:Int)] 91 (0,0)):=fL wr _;have vN:Below w.heap.size w (wr.alloc (Obj.cells #[.int IntKind.u8 46,.string ⟨D.toArray⟩,.int IntKind.i64 (s.size:Int)] 91)):=af.trans ((ai _ _).mono af.size);have sK:=AL.E (ai wr (Obj.cells #[.int IntKind.u8 46,.string ⟨D.toArray⟩,.int IntKind.i64 (s.size:Int)] 91));have se:=AS.E (ai wr (Obj.cells #[.int IntKind.u8 46,.string ⟨D.toArray⟩,.int IntKind.i64 (s.size:Int)] 91));have EE:(c:Int).natAbs<10^201:=gz.cs;go_wp2_with(at_builtin;refine iZ rfl (.tmp 134) (.tmp 136) rfl (km+1) _ ms _ _ _ _ c e _ ax rfl mq.list sK se rfl ab aZ ?_);intro v6 w6 bG bt Av;have Ae:=mq.words.lX Av mq.list;have M6:=lK.lX Mp Av mq.list (rW _);(have X6:w6.heap[wr.heap.size]?=some (.cells #[.int .u8 46,.string ⟨D.toArray⟩,.int .i64 (s.size:Int)] 91 (0,0)):=by rw[Av.block _ (bw Xp) jx];exact Xp);have jP:Below w.heap.size w w6:=vN.trans (bt.mono ab);have nJ:=mq.small.snoc CW EE mq.es;clear mq Mp Xp vN;go_wp2_with fail;refine(HO.O w6).mono ?_;rintro en w7 ⟨x7,rfl,kX,dL⟩;obtain⟨b7,a7,n7,c7,_,rfl,_,_⟩:=id kX.open;have M7:=M6.E dL;have X7:w7.heap[wr.heap.size]?=some (.cells #[.int .u8 46,.string ⟨D.toArray⟩,.int .i64 (s.size:Int)] 91 (0,0)):=IS;have cw:w7.cell? ⟨wr.heap.size,0,none⟩=some (.int .u8 46):=JT;exact aqT):P:=h
def avQ{P:Prop}(h:P:=by simp only[tZ];refine nz [4] (xi 4 95 107 #[.agg #[.bool b4,.slice a4 n4 c4],.agg #[.bool pb,.slice xp np cp]] ?_ bX);refine(HQ.O _ _ h4 (hp6.E hb)).mono ?_;rintro e V ⟨x5,x6,rfl,h5,h6,hx⟩;obtain⟨b5,a5,n5,c5,_,rfl,_,_⟩:=id h5.open;obtain⟨b6,a6,n6,c6,_,rfl,_,_⟩:=id h6.open;have hb:=hb.tr hx;have XA:=XA.E hx;have XB:=XB.E hx;refine⟨_,rfl,aT _ hb,?_⟩;simp only[tZ];refine cf 5 90 (.tuple #[.agg #[.bool b5,.slice a5 n5 c5],.agg #[.bool b6,.slice a6 n6 c6]]) rfl (fun _ _=>rfl) (aT _ hb) ?_;simp only[tZ];refine cf 6 96 (.agg #[.bool b5,.slice a5 n5 c5]) rfl (fun _ _=>a_) (aT _ hb) ?_;simp only[tZ];refine cf 7 97 (.agg #[.bool b6,.slice a6 n6 c6]) rfl (fun _ _=>a_) (aT _ hb) ?_;exact auh):P:=h
def avC{P:Prop}(h:P:=by simp only[tZ];refine nz [9] (kY 9 10 (.pointer (some ⟨V.heap.size,0,none⟩)) (V.alloc (Obj.cells #[.bool false,.slice none 0 0] 74)) (aT _ (hb.trans ((ai _ _).mono hb.size))) ?_ bX);obtain⟨hx,XB⟩:=aI (w:=V) (a:=.bool false) (b:=.slice none 0 0) rfl;have gB:=hb.size;have aF:V.heap.size≠kA:=rG XA.lt;have hb:=hb.tr hx;have h5:=h5.E hx;have h6:=h6.E hx;have XA:=XA.E hx;clear hx;generalize V.heap.size=kB at*;exact aul):P:=h
def auy{P:Prop}(h:P:=by simp only[tZ];refine nz [10] (kY 10 8 (.pointer (some ⟨V.heap.size,0,none⟩)) (V.alloc (Obj.cells #[.bool false,.slice none 0 0] 105)) (aT _ (hb.trans ((ai _ _).mono hb.size))) ?_ bX);obtain⟨hx,XB⟩:=aG (w:=V) (a:=.bool false) (b:=.slice none 0 0) rfl;have gB:=hb.size;have aF:V.heap.size≠kA:=rG XA.lt;have hb:=hb.tr hx;have h5:=h5.E hx;have h6:=h6.E hx;have XA:=XA.E hx;clear hx;generalize V.heap.size=kB at*;exact av5):P:=h
def asX{P:Prop}(h:P:=by generalize V.alloc (Obj.cells #[.bool false,.slice none 0 0] 74)=V at*;exact avF):P:=h
def awD{P:Prop}(h:P:=by have ayT:(cl==120)=false:=uM.O 120 xh;exact aqW):P:=h
def auX{P:Prop}(h:P:=by
 cases d with
 |nil=>rcases Gs hI with⟨h1,h2⟩|⟨h1,h2⟩;left;exact⟨rfl,h1,by rw[fR h2];rfl⟩;right;left;exact⟨rfl,h1,by rw[fu h2];rfl⟩
 |cons y l=>rcases Gs hI with⟨h1,h2⟩|⟨h1,h2⟩;right;right;left;exact⟨rfl,h1,by rw[fR h2];rfl⟩;right;right;right;exact⟨rfl,h1,by rw[fu h2];rfl⟩):P:=h
def ae8{P:Prop}(h:P:=by obtain⟨b,x,l,h1,h2,h3⟩:=h;refine⟨b,x,l,h1,VA h2 hg ?_,h3⟩;rcases h2.2 with⟨hn,_⟩|⟨k,cap,cur,hv,_,hk,_⟩;left;rw[hn];rfl;right;rw[hv];show some k≠g;intro e;obtain⟨mJ,hc⟩:=ht k e.symm;rw[hk]at hc;simp at hc):P:=h
def arL{P:Prop}(h:P:=by exact⟨h2.os.trans h0.os,h2.tape.trans h0.tape,h2.output.trans h0.output,aW h0.size h2.size,fun k hk aF=>(h2.block k aZ aF).trans (h0.block k hk aF)⟩):P:=h
def ajU{P:Prop}(h:P:=by rw[hg.block k (gf.1 hk).1 (fun e'=>?_)];exact hk;obtain⟨mJ,hc⟩:=ht k e'.symm;rw[hk]at hc;simp at hc;exact he hc.2.1):P:=h
def atF{P:Prop}(h:P:=by intro k;rw[ja,Gw];split;rw[eX,iE];exact GG hc (hy _);exact du ab):P:=h
def arh{P:Prop}(h:P:=by obtain⟨cur,wY⟩:=h.gO j hj;refine e9 _ _ _ _ (fun e=>?_);rw[show j=k from e,hc]at wY;simp at wY):P:=h
def atz{P:Prop}(h:P:=by refine⟨ax,.inr ⟨g,0,cur,ax,hB,hg,ax,oT,by simpa using sQ,ax⟩⟩):P:=h
def ake{P:Prop}(h:P:=by clear oH cC;clear wz;as_aux_lemma=>have CW:ms.length≤500:=ab;(have jx:(some wr.heap.size:Option Nat)≠(Value.slice la ms.length lc).ownBlock:=fun e=>by obtain⟨cur,hc⟩:=gz.list.gO _ e.symm;have:=bw hc;omega);have I_:wr.heap.size≠km:=ab;have Kb:km≠wr.heap.size:=ab;clear lH;have mq:=gz.E (ai wr (Obj.cells #[.int IntKind.u8 43,.string ⟨D.toArray⟩,.int IntKind.i64 (at':Int)] 91));have Mp:=M0.E (ai wr (Obj.cells #[.int IntKind.u8 43,.string ⟨D.toArray⟩,.int IntKind.i64 (at':Int)] 91));have Xp:(wr.alloc (Obj.cells #[.int IntKind.u8 43,.string ⟨D.toArray⟩,.int IntKind.i64 (at':Int)] 91)).heap[wr.heap.size]?=some (.cells #[.int .u8 43,.string ⟨D.toArray⟩,.int .i64 (at':Int)] 91 (0,0)):=fL wr _;have vN:Below w.heap.size w (wr.alloc (Obj.cells #[.int IntKind.u8 43,.string ⟨D.toArray⟩,.int IntKind.i64 (at':Int)] 91)):=af.trans ((ai _ _).mono af.size);have sK:=AL.E (ai wr (Obj.cells #[.int IntKind.u8 43,.string ⟨D.toArray⟩,.int IntKind.i64 (at':Int)] 91));have se:=AS.E (ai wr (Obj.cells #[.int IntKind.u8 43,.string ⟨D.toArray⟩,.int IntKind.i64 (at':Int)] 91));have EE:(c:Int).natAbs<10^201:=gz.cs;go_wp2_with(at_builtin;refine iZ rfl (.tmp 134) (.tmp 136) rfl (km+1) _ ms _ _ _ _ c e _ ax rfl mq.list sK se rfl ab aZ ?_);intro v6 w6 bG bt Av;have Ae:=mq.words.lX Av mq.list;have M6:=lK.lX Mp Av mq.list (rW _);(have X6:w6.heap[wr.heap.size]?=some (.cells #[.int .u8 43,.string ⟨D.toArray⟩,.int .i64 (at':Int)] 91 (0,0)):=by rw[Av.block _ (bw Xp) jx];exact Xp);have jP:Below w.heap.size w w6:=vN.trans (bt.mono ab);have nJ:=mq.small.snoc CW EE mq.es;clear mq Mp Xp vN;go_wp2_with fail;refine(HO.O w6).mono ?_;rintro en w7 ⟨x7,rfl,kX,dL⟩;obtain⟨b7,a7,n7,c7,_,rfl,_,_⟩:=id kX.open;have M7:=M6.E dL;have X7:w7.heap[wr.heap.size]?=some (.cells #[.int .u8 43,.string ⟨D.toArray⟩,.int .i64 (at':Int)] 91 (0,0)):=IS;have cw:w7.cell? ⟨wr.heap.size,0,none⟩=some (.int .u8 43):=JT;exact aqT):P:=h
def avE{P:Prop}(h:P:=by simp only[tZ];refine nz [8] (kY 8 9 (.pointer (some ⟨V.heap.size,0,none⟩)) (V.alloc (Obj.cells #[.bool false,.slice none 0 0] 74)) (aT _ (hb.trans ((ai _ _).mono hb.size))) ?_ bX);obtain⟨hx,XA⟩:=aI (w:=V) (a:=.bool false) (b:=.slice none 0 0) rfl;have gA:=hb.size;have aF:kB≠V.heap.size:=rA XB.lt;have hb:=hb.tr hx;have h5:=h5.E hx;have h6:=h6.E hx;have XB:=XB.E hx;clear hx;generalize V.heap.size=kA at*;exact aul):P:=h
def aup{P:Prop}(h:P:=by simp only[tZ];refine nz [9] (kY 9 7 (.pointer (some ⟨V.heap.size,0,none⟩)) (V.alloc (Obj.cells #[.bool false,.slice none 0 0] 105)) (aT _ (hb.trans ((ai _ _).mono hb.size))) ?_ bX);obtain⟨hx,XA⟩:=aG (w:=V) (a:=.bool false) (b:=.slice none 0 0) rfl;have gA:=hb.size;have aF:kB≠V.heap.size:=rA XB.lt;have hb:=hb.tr hx;have h5:=h5.E hx;have h6:=h6.E hx;have XB:=XB.E hx;clear hx;generalize V.heap.size=kA at*;exact av5):P:=h
def avF{P:Prop}(h:P:=by simp only[tZ];have c0:=XA.c0;have c1:=XA.c1;have f0:=XA.f0;have f1:=XA.f1;have Y8:=XB.other aF (.bool b5) (.slice a5 n5 c5);have yo:=gK.stored XA h5;have vV:=h6.cK XA (.bool b5) (.slice a5 n5 c5);have Cx:=ar hb gA (.bool b5) (.slice a5 n5 c5);refine DO 18 ((V.setCell ⟨kA,0,none⟩ (.bool b5)).setCell ⟨kA,1,none⟩ (.slice a5 n5 c5)) (aT _ Cx) ?_;clear c0 c1 f0 f1;generalize(V.setCell ⟨kA,0,none⟩ (.bool b5)).setCell ⟨kA,1,none⟩ (.slice a5 n5 c5)=V' at*;have c0:=Y8.c0;have c1:=Y8.c1;have f0:=Y8.f0;have f1:=Y8.f1;have DL:=ar Cx gB (.bool b6) (.slice a6 n6 c6);refine DO 19 ((V'.setCell ⟨kB,0,none⟩ (.bool b6)).setCell ⟨kB,1,none⟩ (.slice a6 n6 c6)) (aT _ DL) ?_;exact atv):P:=h
def aqW{P:Prop}(h:P:=by by_cases Fi:cls=46;(·(have lU:cl=46:=by rw[qQ.O,Fi];rfl);as_aux_lemma=>subst lU;exact Xi);·have as2:(cl==46)=false:=uM.O 46 Fi;as_aux_lemma=>exact Xi):P:=h
def auW{P:Prop}(h:P:=by have h0:=vk wr (.cells #[.bool b,y] 105) v.ownBlock;exact PZ):P:=h
def ajZ{P:Prop}(h:P:=by have h0:=vk wr (.cells #[.bool b,y] 74) v.ownBlock;exact PZ):P:=h
def atT{P:Prop}(h:P:=by rcases aX k l.length with hk|hk;simp[List.getD,cj hk];rw[au (by simpa using hk),au hk];simp):P:=h
def awE{P:Prop}(h:P:=by refine⟨h.1,?_⟩;rcases h.2 with h1|⟨g,cap,cur,hv,aB,r⟩;exact .inl h1;exact .inr ⟨g,cap,cur,hv,aU _,r⟩):P:=h
def anl{P:Prop}(h:P:=by show stepT (DZ zs zs.length m) (zs.getD (zs.length-1-m) 0) (zs.length-1-m)=_;rw[hjm,HE.O,HZ.O]):P:=h
def am6{P:Prop}(h:P:=by clear oH cC;clear wz;as_aux_lemma=>have CW:ms.length≤500:=ab;(have jx:(some wr.heap.size:Option Nat)≠(Value.slice la ms.length lc).ownBlock:=fun e=>by obtain⟨cur,hc⟩:=gz.list.gO _ e.symm;have:=bw hc;omega);have I_:wr.heap.size≠km:=ab;have Kb:km≠wr.heap.size:=ab;clear lH;have mq:=gz.E (ai wr (Obj.cells #[.int IntKind.u8 45,.string ⟨D.toArray⟩,.int IntKind.i64 (at':Int)] 91));have Mp:=M0.E (ai wr (Obj.cells #[.int IntKind.u8 45,.string ⟨D.toArray⟩,.int IntKind.i64 (at':Int)] 91));have Xp:(wr.alloc (Obj.cells #[.int IntKind.u8 45,.string ⟨D.toArray⟩,.int IntKind.i64 (at':Int)] 91)).heap[wr.heap.size]?=some (.cells #[.int .u8 45,.string ⟨D.toArray⟩,.int .i64 (at':Int)] 91 (0,0)):=fL wr _;have vN:Below w.heap.size w (wr.alloc (Obj.cells #[.int IntKind.u8 45,.string ⟨D.toArray⟩,.int IntKind.i64 (at':Int)] 91)):=af.trans ((ai _ _).mono af.size);have sK:=AL.E (ai wr (Obj.cells #[.int IntKind.u8 45,.string ⟨D.toArray⟩,.int IntKind.i64 (at':Int)] 91));have se:=AS.E (ai wr (Obj.cells #[.int IntKind.u8 45,.string ⟨D.toArray⟩,.int IntKind.i64 (at':Int)] 91));have EE:(c:Int).natAbs<10^201:=gz.cs;go_wp2_with(at_builtin;refine iZ rfl (.tmp 134) (.tmp 136) rfl (km+1) _ ms _ _ _ _ c e _ ax rfl mq.list sK se rfl ab aZ ?_);intro v6 w6 bG bt Av;have Ae:=mq.words.lX Av mq.list;have M6:=lK.lX Mp Av mq.list (rW _);(have X6:w6.heap[wr.heap.size]?=some (.cells #[.int .u8 45,.string ⟨D.toArray⟩,.int .i64 (at':Int)] 91 (0,0)):=by rw[Av.block _ (bw Xp) jx];exact Xp);have jP:Below w.heap.size w w6:=vN.trans (bt.mono ab);have nJ:=mq.small.snoc CW EE mq.es;clear mq Mp Xp vN;go_wp2_with fail;refine(HO.O w6).mono ?_;rintro en w7 ⟨x7,rfl,kX,dL⟩;obtain⟨b7,a7,n7,c7,_,rfl,_,_⟩:=id kX.open;have M7:=M6.E dL;have X7:w7.heap[wr.heap.size]?=some (.cells #[.int .u8 45,.string ⟨D.toArray⟩,.int .i64 (at':Int)] 91 (0,0)):=IS;have cw:w7.cell? ⟨wr.heap.size,0,none⟩=some (.int .u8 45):=JT;have r0:=M7.c0;have r1:=M7.c1;have r2:=M7.c2;have r3:=M7.c3;have s0:=M7.fr 0;have s1:=M7.fr 1;have s2:=M7.fr 2;have s3:=M7.fr 3;have hS:=Oc w7 km (.bool b7) (.slice a7 n7 c7) (.bool false) (.slice none 0 0);have Lm:Bk B2 km (.slice (some ⟨g,0,none⟩) ws.length wc) v6 ws ((((w7.setCell ⟨km,0,none⟩ (.bool b7)).setCell ⟨km,1,none⟩ (.slice a7 n7 c7)).setCell ⟨km,2,none⟩ (.bool false)).setCell ⟨km,3,none⟩ (.slice none 0 0)) ⟨ms++[(c,e)],1,0,true,1⟩:=⟨(Ae.E dL).kt M7 hS,(bG.E dL).kt (rW _) M7 hS,⟨_,_,_,_,_,_,_,_,M7.LR _ _ _ _,kX.kt M7 hS,iU⟩,nJ,nE,du ab⟩;have HR8:Hid _:=Lm;have uX:=jP.tr dL;clear Lm;go_wp2;refine jn ?rel ?measure;(case rel=>exact⟨k+1,⟨ms++[(c,e)],1,0,true,1⟩,ab,by go_num,rfl,rfl,(by decide:(1:Nat)≤6),XL,HR8.O,gE,(((uX.setCell mH _).setCell mH _).setCell mH _).setCell mH _⟩);case measure=>simp[intOf];omega):P:=h
def atJ{P:Prop}(h:P:=by simp only[tZ];refine nz [10] (kY 10 13 (.pointer (some ⟨V.heap.size,0,none⟩)) (V.alloc (Obj.cells #[.bool false,.slice none 0 0] 105)) (aT _ (hb.trans ((ai _ _).mono hb.size))) ?_ bX);obtain⟨hx,XB⟩:=aG (w:=V) (a:=.bool false) (b:=.slice none 0 0) rfl;have gB:=hb.size;exact asL):P:=h
def aqT{P:Prop}(h:P:=by have r0:=M7.c0;have r1:=M7.c1;have r2:=M7.c2;have r3:=M7.c3;have s0:=M7.fr 0;have s1:=M7.fr 1;have s2:=M7.fr 2;have s3:=M7.fr 3;have hS:=Oc w7 km (.bool b7) (.slice a7 n7 c7) (.bool false) (.slice none 0 0);have Lm:Bk B2 km (.slice (some ⟨g,0,none⟩) ws.length wc) v6 ws ((((w7.setCell ⟨km,0,none⟩ (.bool b7)).setCell ⟨km,1,none⟩ (.slice a7 n7 c7)).setCell ⟨km,2,none⟩ (.bool false)).setCell ⟨km,3,none⟩ (.slice none 0 0)) ⟨ms++[(c,e)],1,0,false,1⟩:=⟨(Ae.E dL).kt M7 hS,(bG.E dL).kt (rW _) M7 hS,⟨_,_,_,_,_,_,_,_,M7.LR _ _ _ _,kX.kt M7 hS,iU⟩,nJ,nE,du ab⟩;have HR8:Hid _:=Lm;have uX:=jP.tr dL;clear Lm;go_wp2;refine jn ?rel ?measure;(case rel=>exact⟨k+1,⟨ms++[(c,e)],1,0,false,1⟩,ab,by go_num,rfl,rfl,(by decide:(1:Nat)≤6),XL,HR8.O,gE,(((uX.setCell mH _).setCell mH _).setCell mH _).setCell mH _⟩);case measure=>simp[intOf];omega):P:=h
def au_{P:Prop}(h:P:=by refine pQ 17 64 63 #[.agg #[.bool pb,.slice xp np cp],.agg #[.bool b5,.slice a5 n5 c5]] ?_;refine(sD _ _ p (d1-d2) w5 QW dP fp fd).mono ?_;rintro en w6 ⟨x6,rfl,gM,bt⟩;obtain⟨b6,a6,n6,c6,_,rfl,_,_⟩:=id gM.open;have jP:=fT.tr bt;have P6:=P5.E bt;have yL:=tE.E bt;have r0:=P6.c0;have r1:=P6.c1;have r2:=P6.f0;have r3:=P6.f1;have AM:=gK.stored P6 gM;have hKv:=yL.other P6 (show w.heap.size≠kw by omega) (.bool b6) (.slice a6 n6 c6);have dL:=ar jP (show w.heap.size≤kw by omega) (.bool b6) (.slice a6 n6 c6);refine⟨_,rfl,aT _ jP,?_⟩;simp only[tZ];refine DO 18 ((w6.setCell ⟨kw,0,none⟩ (.bool b6)).setCell ⟨kw,1,none⟩ (.slice a6 n6 c6)) (aT _ dL) ?_;clear r0 r1 r2 r3 yL P6 gM bt;generalize(w6.setCell ⟨kw,0,none⟩ (.bool b6)).setCell ⟨kw,1,none⟩ (.slice a6 n6 c6)=W7 at*;refine eH aw ?_ _;go_wp2;go_roundw;(case rel=>exact⟨k+1,_,_,by go_num,ab,hKv,AM,HN,dL⟩);case measure=>simp[intOf];omega):P:=h
def aul{P:Prop}(h:P:=by generalize V.alloc (Obj.cells #[.bool false,.slice none 0 0] 74)=V at*;exact auh):P:=h
def av5{P:Prop}(h:P:=by generalize V.alloc (Obj.cells #[.bool false,.slice none 0 0] 105)=V at*;exact aut):P:=h
def UG{P:Prop}(h:P:=by obtain⟨cs,h1,h2,h3⟩:=h;intro k hk;rcases h2.2 with⟨hn,_⟩|⟨g,cap,cur,hv,_,hg,_⟩;rw[hn]at hk;simp[Value.ownBlock]at hk;rw[hv]at hk;simp[Value.ownBlock]at hk;subst hk;exact⟨cur,hg⟩):P:=h
def awp{P:Prop}(h:P:=by refine⟨h.1,?_⟩;rcases h.2 with hn|⟨g,cap,cur,hv,hb,r⟩;exact .inl hn;exact .inr ⟨g,cap,cur,hv,aW hB hb,r⟩):P:=h
def asF{P:Prop}(h:P:=by intro w' h1 h2;rw[AY]at h1;exact hK w' _ rfl h1 ((aL _ _).grown h2 (al _) (fun k hk=>rV))):P:=h
def arH{P:Prop}(h:P:=by simp only[tZ];refine nz [9] (kY 9 12 (.pointer (some ⟨V.heap.size,0,none⟩)) (V.alloc (Obj.cells #[.bool false,.slice none 0 0] 105)) (aT _ (hb.trans ((ai _ _).mono hb.size))) ?_ bX);obtain⟨hx,XA⟩:=aG (w:=V) (a:=.bool false) (b:=.slice none 0 0) rfl;have gA:=hb.size;exact atj):P:=h
def asL{P:Prop}(h:P:=by have aF:V.heap.size≠kA:=rG XA.lt;have hb:=hb.tr hx;have h5:=h5.E hx;have h6:=h6.E hx;have XA:=XA.E hx;clear hx;generalize V.heap.size=kB at*;exact aqD):P:=h
def akC{P:Prop}(h:P:=by simp only[tZ];clear p0 p1 p4;refine yr 7 108 (fun v' w'=>ah w0.heap.size w' v' (Z++[c])∧Nd.grownBy w' (Value.slice Wv Z.length VR).ownBlock∧∀k,v'.ownBlock=some k→(Value.slice Wv Z.length VR).ownBlock=some k∨Nd.heap.size≤k) rfl rfl aw rfl (fun K hK=>JA (.tmp 105) (.tmp 107) rfl w0.heap.size _ Z _ _ c rfl amy yx rfl ab (aW afj.size TY.size) fun v' w' g1 g2 g3=>hK v' w' ⟨g1,g2,g3⟩) ?_;rintro v12 sE ⟨ala,aj0,atg⟩;have DQ:=MR.grown aj0 amy.gO;have r1:=DQ.fz 4;have r2:=DQ.c.2.2.2.2;have HR:Hid _:=awu.O v12 sE ala aj0 atg DQ;refine⟨trivial,?_⟩;simp only[tZ];refine bh 8 109 (.pointer (some ⟨sk,0,none⟩)) trivial ?_;simp only[tZ];refine bh 9 110 (.pointer (some ⟨sk,4,none⟩)) trivial ?_;simp only[tZ];obtain⟨af1,ae0,rfl⟩:=ah.val ala;refine DO 10 (sE.setCell ⟨sk,4,none⟩ (.slice af1 (Z++[c]).length ae0)) trivial ?_;refine eH aw ?_ _;go_wp2_with fail;go_meet;case rel=>exact HR.O):P:=h
def auh{P:Prop}(h:P:=by simp only[tZ];have c0:=XA.c0;have c1:=XA.c1;have f0:=XA.f0;have f1:=XA.f1;have Y8:=XB.other aF (.bool b5) (.slice a5 n5 c5);have yo:=gK.stored XA h5;have vV:=h6.cK XA (.bool b5) (.slice a5 n5 c5);have Cx:=ar hb gA (.bool b5) (.slice a5 n5 c5);refine DO 10 ((V.setCell ⟨kA,0,none⟩ (.bool b5)).setCell ⟨kA,1,none⟩ (.slice a5 n5 c5)) (aT _ Cx) ?_;clear c0 c1 f0 f1;generalize(V.setCell ⟨kA,0,none⟩ (.bool b5)).setCell ⟨kA,1,none⟩ (.slice a5 n5 c5)=V' at*;have c0:=Y8.c0;have c1:=Y8.c1;have f0:=Y8.f0;have f1:=Y8.f1;have DL:=ar Cx gB (.bool b6) (.slice a6 n6 c6);refine DO 11 ((V'.setCell ⟨kB,0,none⟩ (.bool b6)).setCell ⟨kB,1,none⟩ (.slice a6 n6 c6)) (aT _ DL) ?_;exact atv):P:=h
def aut{P:Prop}(h:P:=by simp only[tZ];have c0:=XA.c0;have c1:=XA.c1;have f0:=XA.f0;have f1:=XA.f1;have Y8:=XB.other aF (.bool b5) (.slice a5 n5 c5);have auj:=h6.cK XA (.bool b5) (.slice a5 n5 c5);have Cx:=ar hb gA (.bool b5) (.slice a5 n5 c5);refine DO 11 ((V.setCell ⟨kA,0,none⟩ (.bool b5)).setCell ⟨kA,1,none⟩ (.slice a5 n5 c5)) (aT _ Cx) ?_;clear c0 c1 f0 f1;generalize(V.setCell ⟨kA,0,none⟩ (.bool b5)).setCell ⟨kA,1,none⟩ (.slice a5 n5 c5)=V' at*;have c0:=Y8.c0;have c1:=Y8.c1;have f0:=Y8.f0;have f1:=Y8.f1;have DL:=ar Cx gB (.bool b6) (.slice a6 n6 c6);have hK8:=ee.stored Y8 auj;refine DO 12 ((V'.setCell ⟨kB,0,none⟩ (.bool b6)).setCell ⟨kB,1,none⟩ (.slice a6 n6 c6)) (aT _ DL) ?_;refine eH aw ?_ _;go_wp2_with fail;go_meet;case rel=>exact⟨kB,rfl,hK8,gB,DL⟩):P:=h
def al2{P:Prop}(h:P:=by have aFG:(cl==43)=false:=uM.O 43 Lq;have asb:(cl==45)=false:=uM.O 45 Ac;have as2:(cl==46)=false:=uM.O 46 Fi;as_aux_lemma=>exact Xi):P:=h
def au9{P:Prop}(h:P:=by obtain⟨cs,h1,h2,h3⟩:=h;refine⟨cs,h1,⟨h2.1,?_⟩,h3⟩;rcases h2.2 with h|⟨g,cap,cur,hv,hb,r⟩;exact .inl h;exact .inr ⟨g,cap,cur,hv,aW hC hb,r⟩):P:=h
def PZ{P:Prop}(h:P:=by exact⟨g2.os.trans h0.os,g2.tape.trans h0.tape,g2.output.trans h0.output,aW h0.size g2.size,fun k hk aF=>(g2.block k aZ aF).trans (h0.block k hk aF)⟩):P:=h
def atj{P:Prop}(h:P:=by have aF:kB≠V.heap.size:=rA XB.lt;have hb:=hb.tr hx;have h5:=h5.E hx;have h6:=h6.E hx;have XB:=XB.E hx;clear hx;generalize V.heap.size=kA at*;exact aqD):P:=h
def auN{P:Prop}(h:P:=by refine pQ 10 46 58 #[.agg #[.bool vb,.slice xv nv cv],.agg #[.bool b5,.slice a5 n5 c5]] ?_;refine(qe _ _ v (z*p) w5 hV5 dP fv fzp).mono ?_;rintro en w6 ⟨x6,rfl,gM,bt⟩;obtain⟨b6,a6,n6,c6,_,rfl,_,_⟩:=id gM.open;have jP:=fT.tr bt;have V6:=V5.E bt;have P6:=P5.E bt;have hP6:=QW.E bt;have r0:=V6.c0;have r1:=V6.c1;have r2:=V6.f0;have r3:=V6.f1;have hKv:=gK.stored V6 gM;have hP7:=P6.other (show kw≠w.heap.size by omega) (.bool b6) (.slice a6 n6 c6);have AM:=gK.other (⟨_,_,_,_,P6,hP6⟩:gK w6 kw p) V6 (show kw≠w.heap.size by omega) (.bool b6) (.slice a6 n6 c6);have dL:=ar jP (al w.heap.size) (.bool b6) (.slice a6 n6 c6);refine⟨_,rfl,aT _ jP P6,?_⟩;simp only[tZ];refine DO 11 ((w6.setCell ⟨w.heap.size,0,none⟩ (.bool b6)).setCell ⟨w.heap.size,1,none⟩ (.slice a6 n6 c6)) (aT _ dL hP7) ?_;refine eH aw ?_ _;go_wp2_with fail;go_meet;case rel=>exact⟨hKv,AM,dL⟩):P:=h
def Xi{P:Prop}(h:P:=by(have Zn:R=.inl at':=by have:=oH.O;rw[cC]at this;exact this.symm);clear oH cC wz lH HO;go_wp2_with fail;go_quiet(fail);go_wp2;exact LV Zn (af.trans ((rL (ai _ _) nq).mono af.size))):P:=h
def atm{P:Prop}(h:P:=by obtain⟨cs,h1,h2,h3⟩:=h;refine⟨cs,h1,⟨h2.1,?_⟩,h3⟩;rcases h2.2 with h|⟨g,cap,cur,hv,_,r⟩;exact .inl h;exact .inr ⟨g,cap,cur,hv,aU _,r⟩):P:=h
def atv{P:Prop}(h:P:=by refine eH aw ?_ _;go_wp2_with fail;go_meet;case rel=>exact⟨kA,kB,rfl,rfl,yo.other Y8 aF.symm _ _,gK.stored Y8 vV,DL⟩):P:=h
def aqD{P:Prop}(h:P:=by generalize V.alloc (Obj.cells #[.bool false,.slice none 0 0] 105)=V at*;exact an2):P:=h
def WA{P:Prop}(h:P:=by obtain⟨cs,h1,h2,h3⟩:=h;exact auo):P:=h
def RY{P:Prop}(h:P:=by intro W;have:=ER ⟨D.toArray⟩ W (by show D.length≤1000;omega) (by simpa using Dn);simpa using this):P:=h
def an2{P:Prop}(h:P:=by simp only[tZ];have c0:=XA.c0;have c1:=XA.c1;have f0:=XA.f0;have f1:=XA.f1;have Y8:=XB.other aF (.bool b5) (.slice a5 n5 c5);have yo:=ee.stored XA h5;have Cx:=ar hb gA (.bool b5) (.slice a5 n5 c5);refine DO 11 ((V.setCell ⟨kA,0,none⟩ (.bool b5)).setCell ⟨kA,1,none⟩ (.slice a5 n5 c5)) (aT _ Cx) ?_;clear c0 c1 f0 f1;generalize(V.setCell ⟨kA,0,none⟩ (.bool b5)).setCell ⟨kA,1,none⟩ (.slice a5 n5 c5)=V' at*;have c0:=Y8.c0;have c1:=Y8.c1;have f0:=Y8.f0;have f1:=Y8.f1;have DL:=ar Cx gB (.bool b6) (.slice a6 n6 c6);refine DO 12 ((V'.setCell ⟨kB,0,none⟩ (.bool b6)).setCell ⟨kB,1,none⟩ (.slice a6 n6 c6)) (aT _ DL) ?_;refine eH aw ?_ _;go_wp2_with fail;go_meet;case rel=>exact⟨kA,rfl,yo.other Y8 aF.symm _ _,DL⟩):P:=h
def auo{P:Prop}(h:P:=by rcases h2.2 with⟨h,h'⟩|⟨g,cap,cur,hv,_⟩;exact⟨none,0,by rw[h'];exact h⟩;exact⟨_,_,hv⟩):P:=h
def aeI{P:Prop}(h:P:=by obtain⟨b',x',l,e,hr,_⟩:=hz;simp at e;obtain⟨_,rfl⟩:=e;obtain⟨xa,xc,rfl⟩:=hr.val;rfl):P:=h
def ab{P:Prop}(h:P:=by omega):P:=h
def aw{P:Prop}(h:P:=by kernel_rfl):P:=h
def ax{P:Prop}(h:P:=by simp):P:=h
def aE{P:Prop}(h:P:=by decide):P:=h
def aZ{P:Prop}(h:P:=by simp;omega):P:=h
def iy{P:Prop}(h:P:=by rw[y_];omega):P:=h
def a_{P:Prop}(h:P:=by go_simp):P:=h
def qs{P:Prop}(h:P:=by obtain⟨y0,y1,y2,y3⟩:=cQ;go_simp):P:=h
def mI{P:Prop}(h:P:=by rw[mN];omega):P:=h
def jv{P:Prop}(h:P:=by have:=HN.O;omega):P:=h
def dN{P:Prop}(h:P:=by simpa using h):P:=h
def lD{P:Prop}(h:P:=by obtain⟨y0,y1⟩:=cQ;go_simp):P:=h
def cT{P:Prop}(h:P:=by simp at h):P:=h
def mL{P:Prop}(h:P:=by unfold maxLen;omega):P:=h
def EA{P:Prop}(h:P:=by obtain⟨a,c,hh,_⟩:=hW;have:=bw hh;omega):P:=h
def zH{P:Prop}(h:P:=by have:=aB.size;have:=ay.size;omega):P:=h
def aco{P:Prop}(h:P:=by have t0:=(cQ.cell (p:=⟨g,k*4,none⟩) hg).trans e0;have t1:=(cQ.cell (p:=⟨g,k*4+1,none⟩) hg).trans e1;go_simp):P:=h
def wG{P:Prop}(h:P:=by obtain⟨y0,y1,y2⟩:=cQ;go_simp):P:=h
def E_{P:Prop}(h:P:=by rw[HRR.O,h1];show(2:Nat)≠0;decide):P:=h
def IZ{P:Prop}(h:P:=by obtain⟨y0,y1,y2,y3,y4,y5,y6⟩:=cQ;go_simp):P:=h
def l9{P:Prop}(h:P:=by simpa using h1):P:=h
def gQ{P:Prop}(h:P:=by simp[ev]):P:=h
def WO{P:Prop}(h:P:=by simp[List.getD,eo (show j<zs.length by omega)]):P:=h
def sX{P:Prop}(h:P:=by first|rfl|go_simp):P:=h
def aky{P:Prop}(h:P:=by have t0:=(cQ.cell (p:=⟨g,k*4+2,none⟩) hg).trans e2;have t1:=(cQ.cell (p:=⟨g,k*4+2+1,none⟩) hg).trans e3;go_simp):P:=h
def IS{P:Prop}(h:P:=by rw[dL.block _ (bw X6)];exact X6):P:=h
def Cd{P:Prop}(h:P:=by rw[←uF];exact ai _ _):P:=h
def oT{P:Prop}(h:P:=by simp[maxLen]):P:=h
def Tm{P:Prop}(h:P:=by rw[hb.block g (gf.1 hg).1];exact hg):P:=h
def amE{P:Prop}(h:P:=by have t0:=(cQ.cell (p:=⟨b4,0,none⟩) hq).trans q0;have t1:=(cQ.cell (p:=⟨b4,1,none⟩) hq).trans q1;go_simp):P:=h
def ads{P:Prop}(h:P:=by rw[←hW];exact((aL _ _).alloc (al _) _).alloc (by simp) _):P:=h
def rT{P:Prop}(h:P:=by rw[←hW];simp):P:=h
def ji{P:Prop}(h:P:=by cases h):P:=h
def u_{P:Prop}(h:P:=by rw[wx.O];simp):P:=h
def xm{P:Prop}(h:P:=by simp[World.setCell]):P:=h
def VK{P:Prop}(h:P:=by rw[←h.len];exact(eQ.1 hi).1):P:=h
def Ba{P:Prop}(h:P:=by have:=af.size;omega):P:=h
def Vh{P:Prop}(h:P:=by cases b1<;>cases b2<;>simp_all [sv]<;>omega):P:=h
def Bh{P:Prop}(h:P:=by have:=h.size;omega):P:=h
def Ug{P:Prop}(h:P:=by simp[results,results51,go_sem,r3,r4]):P:=h
def Bq{P:Prop}(h:P:=by rw[xR];omega):P:=h
def Ct{P:Prop}(h:P:=by simp[World.cell?,h]):P:=h
def Pj{P:Prop}(h:P:=by unfold bH;rw[eJ];omega):P:=h
def Cg{P:Prop}(h:P:=by simp[List.getD,hi]):P:=h
def Yd{P:Prop}(h:P:=by obtain⟨y0,y1,y2,y3,y4⟩:=cQ;go_simp):P:=h
def BY{P:Prop}(h:P:=by rw[eJ];omega):P:=h
def oM{P:Prop}(h:P:=by simp[h1]):P:=h
def Wj{P:Prop}(h:P:=by rw[←qY.O];exact fL V0 _):P:=h
def Eo{P:Prop}(h:P:=by rw[bV];omega):P:=h
def Ev{P:Prop}(h:P:=by have:=HDd.O;omega):P:=h
def OM{P:Prop}(h:P:=by rw[mv];omega):P:=h
def anK{P:Prop}(h:P:=by rw[vZ (al _),vZ (by omega)];rfl):P:=h
def XL{P:Prop}(h:P:=by show(ms++[_]).length≤_;simp;omega):P:=h
def Jj{P:Prop}(h:P:=by show ms.length≤_;omega):P:=h
def EJ{P:Prop}(h:P:=by rw[HRR.O,h1];rfl):P:=h
def Vw{P:Prop}(h:P:=by unfold lK at h;simp[World.cell?,h]):P:=h
def IP{P:Prop}(h:P:=by have:=ay.size;omega):P:=h
def acf{P:Prop}(h:P:=by simp[results,results127,go_sem,x0,x1]):P:=h
def Ob{P:Prop}(h:P:=by rw[H.eq,e];simp only[rZ]):P:=h
def acF{P:Prop}(h:P:=by simp[results,results99,go_sem,r3,r4]):P:=h
def adr{P:Prop}(h:P:=by simp[results,results58,go_sem,r3,r4]):P:=h
def amu{P:Prop}(h:P:=by simp[List.getD,eo (show j<ts.length by omega)]):P:=h
def UE{P:Prop}(h:P:=by simp only[dM,bs];omega):P:=h
def VJ{P:Prop}(h:P:=by rw[←qY.O];exact ai _ _):P:=h
def I7{P:Prop}(h:P:=by have:=G_.O;omega):P:=h
def xt{P:Prop}(h:P:=by rw[hk];rfl):P:=h
def akv{P:Prop}(h:P:=by have h5:=h4 t;rw[lr]at h5;exact Int.eq_of_sub_eq_zero h5):P:=h
def adN{P:Prop}(h:P:=by obtain⟨y0,y1,y2,y3,y4,y5⟩:=cQ;go_simp):P:=h
def JT{P:Prop}(h:P:=by simp[World.cell?,X7]):P:=h
def rV{P:Prop}(h:P:=by cases hk):P:=h
def ad7{P:Prop}(h:P:=by have:=af.size;have:=ay.size;omega):P:=h
def Ys{P:Prop}(h:P:=by rw[HX.O,HY.O];exact K_):P:=h
def ado{P:Prop}(h:P:=by have:=wB.O;exact⟨by omega,by omega⟩):P:=h
def acZ{P:Prop}(h:P:=by rw[DJ.block _ (bw X5)];exact X5):P:=h
def anA{P:Prop}(h:P:=by rw[rH];exact iP (by omega) (by omega)):P:=h
def adQ{P:Prop}(h:P:=by rw[wx.O];exact bj.tI (by omega) _):P:=h
def acq{P:Prop}(h:P:=by rw[hd];exact hK.out _ _ hS fun _=>h):P:=h
def KP{P:Prop}(h:P:=by simp at hk;omega):P:=h
def OP{P:Prop}(h:P:=by have:=YU.O;omega):P:=h
def ad4{P:Prop}(h:P:=by simp[results,results93,go_sem]):P:=h
def aly{P:Prop}(h:P:=by simp only[List.getD,vG];split<;>rfl):P:=h
def VX{P:Prop}(h:P:=by rw[rR];omega):P:=h
def alM{P:Prop}(h:P:=by rw[kT];have:=sS a p;omega):P:=h
def amB{P:Prop}(h:P:=by obtain⟨l,h1,rfl⟩:=BE hu;exact(h.mem l h1).1.not):P:=h
def ak9{P:Prop}(h:P:=by rw[←hW];exact(aL _ _).alloc (al _) _):P:=h
def ada{P:Prop}(h:P:=by unfold Rd at h;simp[World.cell?,h]):P:=h
def amX{P:Prop}(h:P:=by rw[fW aM];intro h;exact hb (dw h)):P:=h
def OF{P:Prop}(h:P:=by simpa using h (k+1)):P:=h
def aec{P:Prop}(h:P:=by rw[←uF];exact fL wr _):P:=h
def Ea{P:Prop}(h:P:=by simpa using hP):P:=h
def OT{P:Prop}(h:P:=by unfold isF;decide):P:=h
def amU{P:Prop}(h:P:=by obtain⟨a,c,rfl⟩:=ak.val h;exact⟨_,_,_,rfl⟩):P:=h
def alV{P:Prop}(h:P:=by rw[Lc,fR AV,fR h57];rfl):P:=h
def alU{P:Prop}(h:P:=by unfold cV;rw[if_neg (by omega)];split<;>omega):P:=h
def Vm{P:Prop}(h:P:=by rw[HZ.O];exact eI):P:=h
def T_{P:Prop}(h:P:=by have:=aK.size;omega):P:=h
def adK{P:Prop}(h:P:=by unfold fH;simp[Fi,RW,jc]):P:=h
def am7{P:Prop}(h:P:=by rw[show o=_ from HO.O];go_simp;split<;>rfl):P:=h
def ac0{P:Prop}(h:P:=by rw[Int.natAbs_neg];exact gz.cs):P:=h
def akJ{P:Prop}(h:P:=by rw[gI w k 0 #[a,b] _ a' h];rfl):P:=h
def ahW{P:Prop}(h:P:=by obtain⟨_,_,e⟩:=h'.val;simp at e;exact e.2.1):P:=h
def SZ{P:Prop}(h:P:=by rw[rH];omega):P:=h
def VY{P:Prop}(h:P:=by have:=af.size;simp;omega):P:=h
def aft{P:Prop}(h:P:=by obtain⟨_,_,e⟩:=h.val;simp at e;exact e.2.1):P:=h
def ahV{P:Prop}(h:P:=by obtain⟨cs,_,h2,_⟩:=hO8;exact h2.frozenAt _):P:=h
def agV{P:Prop}(h:P:=by unfold Bx;rw[ay.block _ (by omega)];exact X0):P:=h
def Tz{P:Prop}(h:P:=by rw[gD];omega):P:=h
def afm{P:Prop}(h:P:=by simp[results,results66,go_sem,r2,r3]):P:=h
def ahs{P:Prop}(h:P:=by simp[results,results92,go_sem,x0,x1]):P:=h
def WC{P:Prop}(h:P:=by rw[kL];exact Bw hQ t):P:=h
def Md{P:Prop}(h:P:=by have:=HSt.O;omega):P:=h
def Hw{P:Prop}(h:P:=by rw[iw];omega):P:=h
def MU{P:Prop}(h:P:=by have:=HM1.O;omega):P:=h
def Us{P:Prop}(h:P:=by rw[sN];simp;omega):P:=h
def Tc{P:Prop}(h:P:=by rw[h];exact nQ _):P:=h
def ym{P:Prop}(h:P:=by exact lk):P:=h
def zu{P:Prop}(h:P:=by exact mA):P:=h
def NL{P:Prop}(h:P:=by have:=HM.O;omega):P:=h
def MA{P:Prop}(h:P:=by rw[hi];simp[gP]):P:=h
def ahY{P:Prop}(h:P:=by rw[hlen];exact(Nat.min_eq_right hn).symm):P:=h
def afC{P:Prop}(h:P:=by rw[←hW];exact(Bx.alloc w _ _).alloc_old _):P:=h
def ain{P:Prop}(h:P:=by simp[Go.Proofs.YtldcjkhbiffdoaaGreatDoor.ev]):P:=h
def Cv{P:Prop}(h:P:=by rw[e];omega):P:=h
def agM{P:Prop}(h:P:=by show _≤_;rw[Sy.O];exact al _):P:=h
def afT{P:Prop}(h:P:=by rw[mT,mN];omega):P:=h
def Xw{P:Prop}(h:P:=by intro e;subst e;simp at oN):P:=h
def agz{P:Prop}(h:P:=by have:=bR.2 hGp.ne;omega):P:=h
def Ho{P:Prop}(h:P:=by rw[HF.O];rfl):P:=h
def agJ{P:Prop}(h:P:=by have:=af.size;have:=aV.size;omega):P:=h
def afg{P:Prop}(h:P:=by have:=g_.size;have:=aC.size;omega):P:=h
def agW{P:Prop}(h:P:=by rw[Gz hse (by simp) (by simp)];simp):P:=h
def af5{P:Prop}(h:P:=by rw[←hm];exact ko.2 ⟨x,hx,rfl⟩):P:=h
def afR{P:Prop}(h:P:=by have:=g_.size;have:=bU.size;omega):P:=h
def Uq{P:Prop}(h:P:=by unfold stepT;rw[if_neg hz]):P:=h
def FZ{P:Prop}(h:P:=by simpa using h2):P:=h
def WN{P:Prop}(h:P:=by rw[dM,bs];omega):P:=h
def afq{P:Prop}(h:P:=by have:=ay.size;have:=aC.size;omega):P:=h
def agj{P:Prop}(h:P:=by show _=_;rw[nL,hx];rfl):P:=h
def MW{P:Prop}(h:P:=by unfold Tn;decide):P:=h
def afw{P:Prop}(h:P:=by simp[List.getD,rP zU]):P:=h
def aef{P:Prop}(h:P:=by obtain⟨y0,y1⟩:=HSV.O w' cQ;go_simp):P:=h
def Uz{P:Prop}(h:P:=by unfold sv;split<;>omega):P:=h
def ahP{P:Prop}(h:P:=by simp[List.getD,dF h]):P:=h
def agy{P:Prop}(h:P:=by have:=bR.2 hF;omega):P:=h
def agE{P:Prop}(h:P:=by simp[results,results98,go_sem]):P:=h
def af8{P:Prop}(h:P:=by unfold eU at h;simp[World.frozen?,h]):P:=h
def ahy{P:Prop}(h:P:=by simp[results,results59,go_sem]):P:=h
def agF{P:Prop}(h:P:=by show _=_;have:=WE.O;simp;omega):P:=h
def aew{P:Prop}(h:P:=by unfold Bx at h;simp[World.frozen?,h]):P:=h
def BF{P:Prop}(h:P:=by exact Kz):P:=h
def BG{P:Prop}(h:P:=by simp[flat]):P:=h
def WH{P:Prop}(h:P:=by have:=ha.1 q hq;omega):P:=h
def aeK{P:Prop}(h:P:=by rw[We,sQ];omega):P:=h
def aiq{P:Prop}(h:P:=by unfold eU at h;simp[World.cell?,h]):P:=h
def ael{P:Prop}(h:P:=by unfold cL;rw[bN,dY]):P:=h
def Yc{P:Prop}(h:P:=by rw[e_];omega):P:=h
def GF{P:Prop}(h:P:=by rw[h];simp):P:=h
def agl{P:Prop}(h:P:=by unfold Bx at h;simp[World.cell?,h]):P:=h
def Fw{P:Prop}(h:P:=by simp[sv,ev]):P:=h
def Ng{P:Prop}(h:P:=by rw[bW]):P:=h
def LB{P:Prop}(h:P:=by dsimp only;omega):P:=h
def Bf{P:Prop}(h:P:=by simp at hp):P:=h
def ags{P:Prop}(h:P:=by simp[List.getD,rk]):P:=h
def afu{P:Prop}(h:P:=by rw[←HP.O];simp[HB.O,HI.O]):P:=h
def Wm{P:Prop}(h:P:=by unfold fH;simp[xh]):P:=h
def SW{P:Prop}(h:P:=by rw[ek];omega):P:=h
def Uw{P:Prop}(h:P:=by have y0:=cQ;go_simp):P:=h
def U_{P:Prop}(h:P:=by have:=HL.O.1;omega):P:=h
def ahk{P:Prop}(h:P:=by rw[←hW];exact fL w _):P:=h
def aip{P:Prop}(h:P:=by rw[List.take_take];congr 1;omega):P:=h
def ahO{P:Prop}(h:P:=by simp[Value.ownBlock]at hk;omega):P:=h
def afH{P:Prop}(h:P:=by have:=HL.O.1;show _≤_;omega):P:=h
def TQ{P:Prop}(h:P:=by unfold fH;simp[AV]):P:=h
def S7{P:Prop}(h:P:=by simp[World.cell?,X6]):P:=h
def Mi{P:Prop}(h:P:=by simpa using hn):P:=h
def agm{P:Prop}(h:P:=by rw[←hW];exact Own.lit (by simp)):P:=h
def M3{P:Prop}(h:P:=by simpa using he):P:=h
def aeg{P:Prop}(h:P:=by have:=(hB.mem b hb).2.1;omega):P:=h
def L6{P:Prop}(h:P:=by simpa using vD):P:=h
def Cu{P:Prop}(h:P:=by simp[sm]):P:=h
def agD{P:Prop}(h:P:=by dsimp only;simp only[rZ];omega):P:=h
def FO{P:Prop}(h:P:=by rw[HF.O]):P:=h
def FM{P:Prop}(h:P:=by rw[HT.O]):P:=h
def aeU{P:Prop}(h:P:=by rw[cB,az (by omega)]):P:=h
def afz{P:Prop}(h:P:=by simp at h;subst h;simp[j7]):P:=h
def VD{P:Prop}(h:P:=by rw[e,h];simp[ev]):P:=h
def YC{P:Prop}(h:P:=by rw[←Ik.O];simp):P:=h
def UA{P:Prop}(h:P:=by rw[←AA.O];simp):P:=h
def agf{P:Prop}(h:P:=by intro e;subst e;exact aF rfl):P:=h
def aho{P:Prop}(h:P:=by show n<(dp l _).2.2;omega):P:=h
def ahN{P:Prop}(h:P:=by have:=vS.1 h;omega):P:=h
def UI{P:Prop}(h:P:=by simp at h1 ⊢;omega):P:=h
def S6{P:Prop}(h:P:=by simp[List.getD,h]):P:=h
def agP{P:Prop}(h:P:=by simp[Value.ownBlock];omega):P:=h
def Tt{P:Prop}(h:P:=by rw[←HEE.O];rfl):P:=h
def Ty{P:Prop}(h:P:=by simp only[iq]):P:=h
def GP{P:Prop}(h:P:=by simp[kW]):P:=h
def ahx{P:Prop}(h:P:=by rw[We];rfl):P:=h
def aii{P:Prop}(h:P:=by rw[Int.natAbs_neg];exact h2):P:=h
def ah9{P:Prop}(h:P:=by rw[mT];omega):P:=h
def ag_{P:Prop}(h:P:=by have:=hNa (by omega);omega):P:=h
def agC{P:Prop}(h:P:=by have:=HL.O.1;simp;omega):P:=h
def afx{P:Prop}(h:P:=by show _=_;rw[Nr,hc];rfl):P:=h
def V7{P:Prop}(h:P:=by unfold fH;simp):P:=h
def aij{P:Prop}(h:P:=by intro e;subst e;simp at h):P:=h
def Xo{P:Prop}(h:P:=by rw[hlen];omega):P:=h
def Fz{P:Prop}(h:P:=by simp[pA]):P:=h
def Vl{P:Prop}(h:P:=by congr 1<;>omega):P:=h
def SS{P:Prop}(h:P:=by simpa using hd):P:=h
def Nf{P:Prop}(h:P:=by simp[hb]):P:=h
def Lp{P:Prop}(h:P:=by exact hIy):P:=h
def XT{P:Prop}(h:P:=by show _=_;rfl):P:=h
def XP{P:Prop}(h:P:=by simpa using hj):P:=h
def LD{P:Prop}(h:P:=by simp[hx]):P:=h
def MG{P:Prop}(h:P:=by simp[uT]):P:=h
def Ni{P:Prop}(h:P:=by exact J1):P:=h
def NN{P:Prop}(h:P:=by rw[e,h2]):P:=h
def YR{P:Prop}(h:P:=by rw[h2];omega):P:=h
def SQ{P:Prop}(h:P:=by decide+kernel):P:=h
def Uv{P:Prop}(h:P:=by simp[tl,dot]):P:=h
def W_{P:Prop}(h:P:=by rw[e];simp):P:=h
def WU{P:Prop}(h:P:=by rw[hv];rfl):P:=h
def LS{P:Prop}(h:P:=by simp[h2]):P:=h
def Ml{P:Prop}(h:P:=by simp[pE]):P:=h
end Go.Proofs.YtldcjkhbiffdoaaGreatDoor
