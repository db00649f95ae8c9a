import Derived.Test.YtibjhkpgaaapaaaGreatDoorZibg
import Derived.Test.YtibjhkpgaaapaaaGreatDoorZiaa
import Derived.Test.YtibjhkpgaaapaaaGreatDoorZiak
set_option maxRecDepth 100000
set_option maxHeartbeats 1000000
namespace Go.Proofs.YtibjhkpgaaapaaaGreatDoor
open Go.RowKit Go.Proofs.Sha Tryz
theorem TAL.base0 {n0:Nat}{f:Tr PairT->ByteArray × ByteArray}{w:World}:∀ {t:Tr PairT} {p:Option Addr} {bs:List Nat},TAL n0 f t p bs w->TAL 0 f t p bs w
 | .nil,_,_,h=>h
 | .node _ _ _,_,_,⟨b,pl,pr,bl,br,h1,h5,_,h2,h3,h4⟩=>⟨b,pl,pr,bl,br,h1,h5,Nat.zero_le _,h2,h3.base0,h4.base0⟩
theorem TAL.uniq {n0 n1:Nat}{f g:Tr PairT->ByteArray × ByteArray}{w:World}:∀ {t:Tr PairT} {p:Option Addr} {bs bs':List Nat},TAL n0 f t p bs w->TAL n1 g t p bs' w->bs=bs'
 | .nil,_,_,_,h,h'=>h.2.trans h'.2.symm
 | .node _ _ _,_,_,_,⟨b,pl,pr,bl,br,h1,h5,_,h2,h3,h4⟩,⟨b',pl',pr',bl',br',h1',h5',_,h2',h3',h4'⟩=>by
  have e:b=b':=by
   have:=h1.symm.trans h1'
   simpa using this
  subst e
  have e1:pl=pl':=by
   have:=h2.c35.symm.trans h2'.c35
   simpa using this
  have e2:pr=pr':=by
   have:=h2.c36.symm.trans h2'.c36
   simpa using this
  subst e1 e2;rw[h5,h5',h3.uniq h3',h4.uniq h4']
theorem save_any (HH:Hid (HashSaid KTab))(so ro bo wd:Nat)(ss:List ByteArray)(ao:Option Addr)(co:Nat)(t:Tr PairT)(p:Option Addr)(n0:Nat)(w:World)(hOld:Hid (∀W,Below n0 w W->StockAt so ro bo wd ss ao co W))(hKT:Hid (∀W,Below n0 w W->KTab W))(hn0:n0<=w.heap.size)(ht:TA n0 bare t p w)(ha:Apart t.inord)(hsz:∀x ∈ t.inord,x.1.size<=1048576/\x.2.size<=1048576)(hs1:ss.length<=20000)(hs2:∀j,(ss.getD j ⟨#[]⟩).size<=1048576)(hw1:1<=wd)(hw2:wd<=32) : Calls prog 129 #[.pointer (some ⟨so,0,none⟩),.pointer p] w λe w'=>∃gs sa ra base bs,e=.returned (.pointer (some ⟨gs,0,none⟩))/\SvAt gs so sa ra base wd (svAll wd ss (encsT wd t)) w'/\TA n0 (hf wd) t p w'/\TAL n0 bare t p bs w/\Upd (λk=>k ∈ bs) w w':=by
 have hO:=hOld.out w (Below.refl _ _);have c1:=ZC hO.blk 1;have HN:=qdD wd w;go_enter func129,ntmps129;go_upto_region 2 with (go_at_call 115;refine HN.mono ?_;rintro e w1 ⟨sa,ra,rfl,hS,hb1,hr1,hr2⟩);obtain⟨gs,hgs⟩:∃g,w1.heap.size=g:=⟨_,rfl⟩;have hb2:Below w1.heap.size w1 ((w1.alloc (.cells #[.pointer (some ⟨so,0,none⟩),.pointer (some ⟨sa,0,none⟩),.int .i64 0,.string ⟨#[]⟩,.string ⟨#[]⟩] 188)).alloc (.cells #[.pointer (some ⟨w1.heap.size,0,none⟩)] 185)):=((Below.refl _ _).alloc (Nat.le_refl _) _).alloc (by simp) _;have n2:=heap_alloc_new (w1.alloc (.cells #[.pointer (some ⟨so,0,none⟩),.pointer (some ⟨sa,0,none⟩),.int .i64 0,.string ⟨#[]⟩,.string ⟨#[]⟩] 188)) (.cells #[.pointer (some ⟨w1.heap.size,0,none⟩)] 185);have n1:SVb w1.heap.size so sa 0 ⟨#[]⟩ ⟨#[]⟩ ((w1.alloc (.cells #[.pointer (some ⟨so,0,none⟩),.pointer (some ⟨sa,0,none⟩),.int .i64 0,.string ⟨#[]⟩,.string ⟨#[]⟩] 188)).alloc (.cells #[.pointer (some ⟨w1.heap.size,0,none⟩)] 185)):=(Below.heap_alloc (w1.alloc (.cells #[.pointer (some ⟨so,0,none⟩),.pointer (some ⟨sa,0,none⟩),.int .i64 0,.string ⟨#[]⟩,.string ⟨#[]⟩] 188)) (.cells #[.pointer (some ⟨w1.heap.size,0,none⟩)] 185) w1.heap.size (by simp)).trans (heap_alloc_new w1 _);have hz2:((w1.alloc (.cells #[.pointer (some ⟨so,0,none⟩),.pointer (some ⟨sa,0,none⟩),.int .i64 0,.string ⟨#[]⟩,.string ⟨#[]⟩] 188)).alloc (.cells #[.pointer (some ⟨w1.heap.size,0,none⟩)] 185)).heap.size=w1.heap.size+2:=by simp
 rw[World.size_alloc] at n2;have hsl:=hS.hb;generalize (w1.alloc (.cells #[.pointer (some ⟨so,0,none⟩),.pointer (some ⟨sa,0,none⟩),.int .i64 0,.string ⟨#[]⟩,.string ⟨#[]⟩] 188)).alloc (.cells #[.pointer (some ⟨w1.heap.size,0,none⟩)] 185)=w2 at hb2 n1 n2 hz2⊢;have hS2:=hS.below hb2;have hbw2:Below w.heap.size w w2:=hb1.trans (hb2.mono hb1.size);rw[hgs] at n1 n2 hz2 hsl⊢;clear hgs hb2 hb1 hS HN c1 hO;have hO2:=hOld.out w2 (hbw2.mono hn0);have c1:=ZC hO2.blk 1;have HAdd:=addHashes_any wd hw1 hw2 n0 t p w2 (ht.below hbw2 (Nat.le_refl _)) ha hsz (hKT.out w2 (hbw2.mono hn0));have HWk:Hid (∀w4,(∃bs,TAL n0 bare t p bs w2/\TAL n0 (hf wd) t p bs w4/\Upd (λk=>k ∈ bs) w2 w4)->Calls prog 159 #[.pointer p,.func (.func 160) #[] #[],.func (.func 161) #[] #[.pointer (some ⟨gs+1,0,none⟩)]] w4 λe w'=>∃v base,e=.returned (.bool v)/\w'.cell? ⟨gs+1,0,none⟩=some (.pointer (some ⟨gs,0,none⟩))/\SvAt gs so sa ra base wd (svAll wd ss (encsT wd t)) w'/\TA n0 (hf wd) t p w'/\∃bs,TAL n0 bare t p bs w/\Upd (λk=>k ∈ bs) w w'):=by
  rintro w4 ⟨bs,t1,t2,hu⟩;have hcs2:=ZC n2 0;have hgb:gs ∉ bs:=t1.notin gs (ZC n1 0) (λs=>by simp);have hcb:gs+1 ∉ bs:=t1.notin (gs+1) hcs2 (λs=>by simp);have hsb:sa ∉ bs:=t1.notin sa (ZC hS2.blk 0) (λs=>by simp);have hrb:ra ∉ bs:=λhk=>by
   obtain⟨x,_,l,r,e,hT⟩:=t1.mem ra hk;obtain⟨es,cl,hm,_,_⟩:=hS2.map.is;unfold TB at hT;rw[hm] at hT;simp at hT
  have hsm:∀b ∈ bs,¬ SvM gs sa ra b:=λb hb hq=>by
   rcases hq with rfl|rfl|rfl
   ·exact hgb hb
   ·exact hsb hb
   ·exact hrb hb
  have hb24:Below n0 w2 w4:=hu.below (Nat.le_trans hn0 hbw2.size) (λk hk=>t1.ge k hk);have hbw4:Below n0 w w4:=(hbw2.mono hn0).trans hb24;have hMm:∀k,SvM gs sa ra k->n0<=k:=λk hk=>by rcases hk with rfl|rfl|rfl <;> omega
  have hbW:∀W,Upd (SvM gs sa ra) w4 W->Below n0 w W:=λW hW=>hbw4.trans (hW.below (Nat.le_trans hn0 (Nat.le_trans hbw2.size hu.size)) hMm);have hg4:SVb gs so sa 0 ⟨#[]⟩ ⟨#[]⟩ w4:=(hu.block gs (by omega) hgb).trans n1;have hs4:=hu.size;have hS4:StockAt sa ra w4.heap.size wd [] none 0 w4:=by
   refine⟨(hu.block sa (by omega) hsb).trans hS2.blk,World.ownsRow_nil _ _ _ _,?_,by omega,by omega,by omega,Nat.le_refl _⟩;obtain⟨es,cl,hm,q1,q2⟩:=hS2.map.is;exact⟨es,cl,(hu.block ra (by omega) hrb).trans hm,q1,q2⟩
  have hcs4:=hu.cell hcs2 hcb;have hnc:¬ SvM gs sa ra (gs+1):=λhq=>by rcases hq with hq|hq|hq <;> omega
  refine(walk_save HH gs so sa ra w4.heap.size wd ss ro bo ao co w4 rfl (λW hW=>hOld.out W (hbW W hW)) (λW hW=>hKT.out W (hbW W hW)) hs1 hs2 hw1 hw2 (by omega) (by omega) (by omega) (gs+1) hcs4 hnc t p bs [] w4 t2.base0 hsm (Upd.refl _ _) ⟨hg4,⟨none,0,hS4⟩,Nat.zero_le _,λj=>Nat.zero_le _⟩).mono ?_;rintro e w' ⟨he,hA,hU⟩;obtain⟨bs',h0⟩:=ht.list;have hbs:=t1.uniq (h0.upd (M:=λ_=>False) (Upd.of_below hbw2) (λ_ _ q=>q));subst hbs;refine⟨_,_,he,hU.cell hcs4 hnc,hA,(t2.upd hU hsm).ta,bs,h0,⟨hU.os.trans (hu.os.trans hbw2.os),hU.tape.trans (hu.tape.trans hbw2.tape),hU.output.trans (hu.output.trans hbw2.output),Nat.le_trans hbw2.size (Nat.le_trans hu.size hU.size),λk hk hn=>?_⟩⟩;have hk2:=hbw2.size;exact(hU.block k (by omega) (λhq=>by rcases hq with hq|hq|hq <;> omega)).trans ((hu.block k (by omega) hn).trans (hbw2.block k hk))
 have hmf:∀ (fn:Fn) (first cap:Array Value) (w:World),(Instr.makeFunc fn first cap).run prog w=.ok (.func fn first cap) w:=λ_ _ _ _=>rfl;clear hOld hKT ht ha hsz hS2 hO2 n1 n2;go_wp2_with (first|(go_at_call 158;refine HAdd.mono ?_;rintro e w4 ⟨rfl,hx4⟩)|(go_at_call 159;refine(HWk.out _ hx4).mono ?_;rintro e w5 ⟨v,base,rfl,hc5,hA5,hT5,bs,hL5,hB5⟩));go_ret;exact⟨gs,sa,ra,base,bs,rfl,hA5,hT5,hL5,hB5⟩
structure SvO where
 cd:Int
 n:Int
 xs:List ByteArray
 root:ByteArray
 x:ByteArray
 y:ByteArray
def codeO (c:Int):SvO:=⟨c,0,[],⟨#[]⟩,⟨#[]⟩,⟨#[]⟩⟩
def svOut (wd:Nat) (ss:List ByteArray) (root:ByteArray):SvR->SvO
 | .go ad=>⟨0,(wd:Int),ss++ad,root,⟨#[]⟩,⟨#[]⟩⟩
 | .full=>codeO 1
 | .clash u e=>⟨4,(wd:Int),ss,⟨#[]⟩,txt u,txt e⟩
def SavedIs (o:SvO) (we:World) (e:Ending) (w':World):Prop:=∃a c,e=.returned (svV o.cd o.n a o.xs.length c o.root o.x o.y)/\OwnT we o.xs a o.xs.length c w'
theorem OwnT.nil {w W:World}(h:Below w.heap.size w W):OwnT w [] none 0 0 W:=⟨World.ownsRow_nil _ _ _ _,h,rfl⟩
theorem retS {fn:Func}{R:Ending->World->Prop}{A:Act}{p:Tmp}{gb:Nat}{cd n:Int}{a:Option Addr}{m c:Nat}{root x y:ByteArray}{W:World}(hres:fn.results=#[.cell p 56])(hp:A.tmps.getD p undef=.pointer (some ⟨gb,0,none⟩))(hd:A.defers=[])(hn:W.heap[gb]?=some (.cells #[.int .i64 cd,.int .i64 n,.slice a m c,.string root,.string x,.string y] 56))(h:R (.returned (svV cd n a m c root x y)) W):bodyPost prog fn R Exit.ret A W:=by
 have c0:=ZC hn 0;have c1:=ZC hn 1;have c2:=ZC hn 2;have c3:=ZC hn 3;have c4:=ZC hn 4;have c5:=ZC hn 5;have hp':A.tmps[p]?.getD undef=.pointer (some ⟨gb,0,none⟩):=by simpa using hp
 refine bodyPost_ret (v:=svV cd n a m c root x y) ?_ hd h;simp[results,hres,go_sem,asAddr,hp',c0,c1,c2,c3,c4,c5]
def SB (g:Nat) (cd n:Int) (a:Option Addr) (m c:Nat) (root x y:ByteArray) (W:World):Prop:=W.heap[g]?=some (.cells #[.int .i64 cd,.int .i64 n,.slice a m c,.string root,.string x,.string y] 56)
def set6 (W:World) (g:Nat) (cd n:Int) (a:Option Addr) (m c:Nat) (root x y:ByteArray):World:=(((((W.setCell ⟨g,0,none⟩ (.int .i64 cd)).setCell ⟨g,1,none⟩ (.int .i64 n)).setCell ⟨g,2,none⟩ (.slice a m c)).setCell ⟨g,3,none⟩ (.string root)).setCell ⟨g,4,none⟩ (.string x)).setCell ⟨g,5,none⟩ (.string y)
theorem SB.all {g:Nat}{cd n:Int}{a:Option Addr}{m c:Nat}{root x y:ByteArray}{W:World}(h:SB g cd n a m c root x y W)(cd' n':Int)(a':Option Addr)(m' c':Nat)(root' x' y':ByteArray):SB g cd' n' a' m' c' root' x' y' (set6 W g cd' n' a' m' c' root' x' y') :=
 heap_setCell_same _ g 5 _ 56 (.string y') (heap_setCell_same _ g 4 _ 56 (.string x') (heap_setCell_same _ g 3 _ 56 (.string root') (heap_setCell_same _ g 2 _ 56 (.slice a' m' c') (heap_setCell_same _ g 1 _ 56 (.int .i64 n') (heap_setCell_same _ g 0 _ 56 (.int .i64 cd') h)))))
theorem SB.at {g:Nat}{cd n:Int}{a:Option Addr}{m c:Nat}{root x y:ByteArray}{W:World}(h:SB g cd n a m c root x y W):W.cell? ⟨g,0,none⟩=some (.int .i64 cd)/\W.cell? ⟨g,1,none⟩=some (.int .i64 n)/\W.cell? ⟨g,2,none⟩=some (.slice a m c)/\W.cell? ⟨g,3,none⟩=some (.string root)/\W.cell? ⟨g,4,none⟩=some (.string x)/\W.cell? ⟨g,5,none⟩=some (.string y)/\∀j,W.frozen? ⟨g,j,none⟩=false :=
 ⟨ZC h 0,ZC h 1,ZC h 2,ZC h 3,ZC h 4,ZC h 5,λj=>by rw[World.frozen?,show W.heap[g]?=_ from h];rfl⟩
theorem OwnT.set6 {w W:World}{xs:List ByteArray}{a0:Option Addr}{m0 c0:Nat}{g:Nat}{cs:Array Value}(h:OwnT w xs a0 m0 c0 W)(hg:W.heap[g]?=some (.cells cs 56))(hge:w.heap.size<=g)(cd n:Int)(a:Option Addr)(m c:Nat)(root x y:ByteArray):OwnT w xs a0 m0 c0 (set6 W g cd n a m c root x y):=by
 refine⟨qaM h.own (λq hv hq=>?_),(((((h.bel.setCell (p:=⟨g,0,none⟩) hge _).setCell (p:=⟨g,1,none⟩) hge _).setCell (p:=⟨g,2,none⟩) hge _).setCell (p:=⟨g,3,none⟩) hge _).setCell (p:=⟨g,4,none⟩) hge _).setCell (p:=⟨g,5,none⟩) hge _,h.len⟩;have hne:q ≠ g:=by
  intro e;subst e;obtain⟨_,_,cur,h9⟩:=qas h.own hv;rw[hg] at h9;simp at h9
 unfold Proofs.YtibjhkpgaaapaaaGreatDoor.set6;rw[Below.heap_setCell _ _ _ _ (by show q ≠ g;exact hne),Below.heap_setCell _ _ _ _ (by show q ≠ g;exact hne),Below.heap_setCell _ _ _ _ (by show q ≠ g;exact hne),Below.heap_setCell _ _ _ _ (by show q ≠ g;exact hne),Below.heap_setCell _ _ _ _ (by show q ≠ g;exact hne),Below.heap_setCell _ _ _ _ (by show q ≠ g;exact hne)]
theorem saved_any (HH:Hid (HashSaid KTab))(so ro bo wd:Nat)(ss:List ByteArray)(ao:Option Addr)(co:Nat)(t:Tr PairT)(p:Option Addr)(n0:Nat)(we w:World)(hbe:Below we.heap.size we w)(hne:we.heap.size<=n0)(hOld:Hid (∀W,Below n0 w W->StockAt so ro bo wd ss ao co W))(hKT:Hid (∀W,Below n0 w W->KTab W))(hn0:n0<=w.heap.size)(ht:TA n0 bare t p w)(ha:Apart t.inord)(hsz:∀x ∈ t.inord,x.1.size<=1048576/\x.2.size<=1048576)(hs1:ss.length<=20000)(hs2:∀j,(ss.getD j ⟨#[]⟩).size<=1048576)(hw1:1<=wd)(hw2:wd<=32) : Calls prog 71 #[.pointer (some ⟨so,0,none⟩),.pointer p] w (SavedIs (svOut wd ss (rootT wd t) (svAll wd ss (encsT wd t))) we):=by
 have hA:=bA w (.cells #[.int .i64 0,.int .i64 0,.slice none 0 0,.string ⟨#[]⟩,.string ⟨#[]⟩,.string ⟨#[]⟩] 56);have nA:=heap_alloc_new w (.cells #[.int .i64 0,.int .i64 0,.slice none 0 0,.string ⟨#[]⟩,.string ⟨#[]⟩,.string ⟨#[]⟩] 56);have hA0:=hA.mono hn0;have HS:=save_any HH so ro bo wd ss ao co t p n0 _ (λW hW=>hOld.out W (hA0.trans hW)) (λW hW=>hKT.out W (hA0.trans hW)) (Nat.le_trans hn0 hA.size) (ht.below hA (Nat.le_refl _)) ha hsz hs1 hs2 hw1 hw2;have HX:Hid (∀w1 bs,TAL n0 bare t p bs (w.alloc (.cells #[.int .i64 0,.int .i64 0,.slice none 0 0,.string ⟨#[]⟩,.string ⟨#[]⟩,.string ⟨#[]⟩] 56))->Upd (λk=>k ∈ bs) (w.alloc (.cells #[.int .i64 0,.int .i64 0,.slice none 0 0,.string ⟨#[]⟩,.string ⟨#[]⟩,.string ⟨#[]⟩] 56)) w1->Below n0 w w1/\SB w.heap.size 0 0 none 0 0 ⟨#[]⟩ ⟨#[]⟩ ⟨#[]⟩ w1/\Below we.heap.size we w1):=λw1 bs hL hU=>by
  have hb1:Below n0 w w1:=hA0.trans (hU.below (Nat.le_trans hn0 hA.size) (λk hk=>hL.ge k hk));have hnb:w.heap.size ∉ bs:=hL.notin _ (ZC nA 0) (λs=>by simp);exact⟨hb1,(hU.block _ (by simp) hnb).trans nA,hbe.trans (hb1.mono hne)⟩
 obtain⟨gr,hgr⟩:∃g,w.heap.size=g:=⟨_,rfl⟩;have hgl:we.heap.size<=gr:=by omega
 rw[hgr] at HX;cases hR:svAll wd ss (encsT wd t) with
 | full =>
  rw[hR] at HS;go_enter func71,ntmps71;go_upto_region 2 with (go_at_call 129;refine HS.mono ?_;rintro e w1 ⟨gs,sa,ra,base,bs,rfl,hS1,hT1,hL1,hU1⟩);obtain⟨hb1,hB1,hbe1⟩:=HX.out _ _ hL1 hU1;have c2:=ZC (show w1.heap[gs]?=_ from hS1) 2;obtain⟨d0,d1,d2,d3,d4,d5,df⟩:=hB1.at;have hB2:=hB1.all 1 0 none 0 0 ⟨#[]⟩ ⟨#[]⟩ ⟨#[]⟩;have hT2:=(OwnT.nil hbe1).set6 hB1 hgl 1 0 none 0 0 ⟨#[]⟩ ⟨#[]⟩ ⟨#[]⟩;clear hL1 hU1 hT1 hbe1 hb1;go_wp2_with fail;exact retS Tryz.results71 rfl rfl hB2 ⟨none,0,rfl,hT2⟩
 | clash u e0 =>
  rw[hR] at HS;have HP:Hid (∀w1,Below n0 w w1->Calls prog 130 #[.pointer (some ⟨so,0,none⟩),.slice none 0 0] w1 λe w'=>∃a' c',e=.returned (.agg #[.int .i64 (wd:Int),.slice a' ss.length c'])/\OwnT w1 ss a' ss.length c' w'):=λw1 hb=>by
   have:=poolOf_any so ro bo wd ss ao co [] none 0 w1 (hOld.out _ hb) hs1 hs2 ⟨Nat.zero_le _,λj=>Nat.zero_le _,λh=>absurd h (Nat.lt_irrefl _)⟩ (Nat.zero_le _);rw[List.append_nil] at this;exact this
  go_enter func71,ntmps71;go_upto_region 2 with (go_at_call 129;refine HS.mono ?_;rintro e w1 ⟨gs,sa,ra,base,bs,rfl,hS1,hT1,hL1,hU1⟩);obtain⟨hb1,hB1,hbe1⟩:=HX.out _ _ hL1 hU1;have hS1':SVb gs so sa 4 (txt u) (txt e0) w1:=hS1;have c2:=ZC hS1' 2;have c3:=ZC hS1' 3;have c4:=ZC hS1' 4;have HP1:=HP.out w1 hb1;have hbd:Below w1.heap.size w1 w1.drew:=(Below.refl _ _).drew;have HP2:Hid (Calls prog 130 #[.pointer (some ⟨so,0,none⟩),.slice none 0 0] w1.drew λe w'=>∃a' c',e=.returned (.agg #[.int .i64 (wd:Int),.slice a' ss.length c'])/\OwnT w1 ss a' ss.length c' w'):=(HP.out w1.drew (hb1.trans (hbd.mono (Nat.le_trans hn0 hb1.size)))).mono (by
   rintro e w' ⟨a',c',he,hT⟩
   exact⟨a',c',he,hT.up hbd⟩)
  clear hL1 hU1 hT1 HP HP1 hS1 HX HS hOld hKT ht ha hsz;go_upto_region 6 with fail;have hne2:gs ≠ gr:=qai hS1' hB1 (by decide);have HK:Hid (∀ (W:World) (o:Nat) (v:Value),(W.cell? ⟨gs,2,none⟩=some (.int .i64 4)/\W.cell? ⟨gs,3,none⟩=some (.string (txt u))/\W.cell? ⟨gs,4,none⟩=some (.string (txt e0)))->(W.setCell ⟨gr,o,none⟩ v).cell? ⟨gs,2,none⟩=some (.int .i64 4)/\(W.setCell ⟨gr,o,none⟩ v).cell? ⟨gs,3,none⟩=some (.string (txt u))/\(W.setCell ⟨gr,o,none⟩ v).cell? ⟨gs,4,none⟩=some (.string (txt e0))):=λW o v h=>by
   have hl:=World.block_lt_of_cell? W _ h.1;have hf:∀j,(W.setCell ⟨gr,o,none⟩ v).cell? ⟨gs,j,none⟩=W.cell? ⟨gs,j,none⟩:=λj=>(qae W gr o v).cell_far ⟨gs,j,none⟩ hl (by intro e;exact hne2 (Option.some.inj e));rw[hf,hf,hf];exact h
  have HS2:Hid (∀W,Below w1.heap.size w1 W->W.cell? ⟨gs,2,none⟩=some (.int .i64 4)/\W.cell? ⟨gs,3,none⟩=some (.string (txt u))/\W.cell? ⟨gs,4,none⟩=some (.string (txt e0))):=λW hW=>⟨ZC (hS1'.below hW) 2,ZC (hS1'.below hW) 3,ZC (hS1'.below hW) 4⟩;have HB:Hid (∀W,Below w1.heap.size w1 W->SB gr 0 0 none 0 0 ⟨#[]⟩ ⟨#[]⟩ ⟨#[]⟩ W):=λW hW=>(hW.block gr (zG hB1).1).trans hB1;clear hS1';refine wp_region_held_drew (S:=λW=>W.cell? ⟨gs,2,none⟩=some (.int .i64 4)/\W.cell? ⟨gs,3,none⟩=some (.string (txt u))/\W.cell? ⟨gs,4,none⟩=some (.string (txt e0))) (by kernel_rfl) (⟨c2,c3,c4⟩) (λhHeld=>?_);refine tkI 0 ?_;simp only[Act.put,zq];refine tkI 1 ?_;simp only[Act.put,zq];refine tkI 2 ?_;simp only[Act.put,zq];refine tkI 3 ?_;simp only[Act.put,zq];refine tkI 4 ?_;simp only[Act.put,zq];refine tkI 6 ?_;simp only[Act.put,zq];refine tkI 7 ?_;simp only[Act.put,zq];refine tkI 8 ?_;simp only[Act.put,zq];refine tkI 9 ?_;simp only[Act.put,zq];refine tkI 10 ?_;simp only[Act.put,zq];refine tkI 11 ?_;simp only[Act.put,zq];refine tkI 12 ?_;simp only[Act.put,zq];refine tkI 13 ?_;simp only[Act.put,zq];refine rdH 5 (λK hK=>?_);go_simp;refine(HP2.out).mono ?_;rintro e w2 ⟨a2,cc2,rfl,hT2⟩;have hB2:=HB.out _ hT2.bel;obtain⟨d0,d1,d2,d3,d4,d5,df⟩:=hB2.at;have h2S:=HS2.out _ hT2.bel;have h6S:=HK.out _ 5 (.string (txt e0)) (HK.out _ 4 (.string (txt u)) (HK.out _ 3 (.string ⟨#[]⟩) (HK.out _ 2 (.slice a2 ss.length cc2) (HK.out _ 1 (.int .i64 (wd:Int)) (HK.out _ 0 (.int .i64 4) h2S)))));refine hK.out _ _ (h2S) (λhHeld=>?_);clear hK K;refine tkI 14 ?_;simp only[Act.put,zq];refine rdH 15 (λK hK=>?_);go_simp;refine hK.out _ _ (h6S) (λhHeld=>?_);clear hK K;refine wpAnyH_done (by kernel_rfl) ?_ _;have hB3:=hB2.all 4 (wd:Int) a2 ss.length cc2 ⟨#[]⟩ (txt u) (txt e0);have hT3:=(hT2.up hbe1).set6 hB2 hgl 4 (wd:Int) a2 ss.length cc2 ⟨#[]⟩ (txt u) (txt e0);clear c2 c3 c4;go_wp2_with fail;exact retS Tryz.results71 rfl rfl hB3 ⟨a2,cc2,rfl,hT3⟩
 | go ad =>
  rw[hR] at HS;go_enter func71,ntmps71;go_upto_region 2 with (go_at_call 129;refine HS.mono ?_;rintro e w1 ⟨gs,sa,ra,base,bs,rfl,hS1,hT1,hL1,hU1⟩);obtain⟨hb1,hB1,hbe1⟩:=HX.out _ _ hL1 hU1;obtain⟨hG1,⟨a1,cc1,hA1⟩,hsm⟩:=hS1;have c1:=ZC hG1 1;have c2:=ZC hG1 2;have c3:=ZC hA1.blk 0;have HP2:Hid (Calls prog 130 #[.pointer (some ⟨so,0,none⟩),.slice a1 ad.length cc1] w1 λe w'=>∃a' c',e=.returned (.agg #[.int .i64 (wd:Int),.slice a' (ss++ad).length c'])/\OwnT w1 (ss++ad) a' (ss++ad).length c' w'):=poolOf_any so ro bo wd ss ao co ad a1 cc1 w1 (hOld.out _ hb1) hs1 hs2 (qbv hA1.own (by have:=hsm.1;omega) hsm.2) hsm.1;have HRt:Hid (∀W,Below w1.heap.size w1 W->Calls prog 131 #[.pointer p] W λe w'=>e=.returned (.string (rootT wd t))/\w'=W):=λW hW=>root_any wd t p W (hT1.below hW (Nat.le_refl _));have HB:Hid (∀W,Below w1.heap.size w1 W->SB gr 0 0 none 0 0 ⟨#[]⟩ ⟨#[]⟩ ⟨#[]⟩ W):=λW hW=>(hW.block gr (zG hB1).1).trans hB1;have hfin:Hid (∀a2 cc2 W,OwnT we (ss++ad) a2 (ss++ad).length cc2 W->SavedIs (svOut wd ss (rootT wd t) (.go ad)) we (.returned (svV 0 (wd:Int) a2 (ss++ad).length cc2 (rootT wd t) ⟨#[]⟩ ⟨#[]⟩)) W):=λa2 cc2 W h=>⟨a2,cc2,rfl,h⟩;obtain⟨M,hM⟩:=eX ((ss++ad).length);rw[hM] at HP2 hfin;clear hM;clear hL1 hU1 hT1 HX HS hOld hKT ht ha hsz hA1 hG1;go_wp2_with (first|(go_at_call 130;refine HP2.out.mono ?_;rintro e w2 ⟨a2,cc2,rfl,hT2⟩;have hB2:=HB.out _ hT2.bel;obtain⟨d0,d1,d2,d3,d4,d5,df⟩:=hB2.at)|(go_at_call 131;refine(HRt.out _ hT2.bel).mono ?_;rintro e w3 ⟨rfl,rfl⟩));have hB3:=hB2.all 0 (wd:Int) a2 M cc2 (rootT wd t) ⟨#[]⟩ ⟨#[]⟩;have hT3:=(hT2.up hbe1).set6 hB2 hgl 0 (wd:Int) a2 M cc2 (rootT wd t) ⟨#[]⟩ ⟨#[]⟩;exact retS Tryz.results71 rfl rfl hB3 (hfin.out _ _ _ hT3)
def savO (wd:Nat) (ss:List ByteArray) (t:Tr PairT):SvO:=svOut wd ss (rootT wd t) (svAll wd ss (encsT wd t))
def saveO (n:Int) (ss:List ByteArray) (ps:List PairT):SvO:=if (poolOk n ss.length && isMapT ps)=true then savO n.toNat ss (cutTree ps) else codeO 1
theorem SavedIs.code {c:Int}{w:World}{g:Nat}{W:World}(hb:Below w.heap.size w W)(hg:SB g 0 0 none 0 0 ⟨#[]⟩ ⟨#[]⟩ ⟨#[]⟩ W)(hge:w.heap.size<=g):SavedIs (codeO c) w (.returned (svV c 0 none 0 0 ⟨#[]⟩ ⟨#[]⟩ ⟨#[]⟩)) (set6 W g c 0 none 0 0 ⟨#[]⟩ ⟨#[]⟩ ⟨#[]⟩) :=
 ⟨none,0,rfl,(OwnT.nil hb).set6 hg hge c 0 none 0 0 ⟨#[]⟩ ⟨#[]⟩ ⟨#[]⟩⟩
theorem SavedIs.put {o:SvO}{w w1 W:World}{g:Nat}{e:Ending}(h:SavedIs o w1 e W)(hb:Below w.heap.size w w1)(hg:SB g 0 0 none 0 0 ⟨#[]⟩ ⟨#[]⟩ ⟨#[]⟩ w1)(hge:w.heap.size<=g) : ∃a m c,e=.returned (svV o.cd o.n a m c o.root o.x o.y)/\SB g 0 0 none 0 0 ⟨#[]⟩ ⟨#[]⟩ ⟨#[]⟩ W/\SavedIs o w (.returned (svV o.cd o.n a m c o.root o.x o.y)) (set6 W g o.cd o.n a m c o.root o.x o.y):=by
 obtain⟨a,c,h1,h2⟩:=h;have hg2:SB g 0 0 none 0 0 ⟨#[]⟩ ⟨#[]⟩ ⟨#[]⟩ W:=(h2.bel.block g (zG hg).1).trans hg;exact⟨a,_,c,h1,hg2,a,c,rfl,(h2.up hb).set6 hg2 hge _ _ _ _ _ _ _ _⟩
theorem psz {a:Option Addr}{ps:List PairT}{w:World}(h:PArg a ps w):∀x ∈ ps,x.1.size<=1048576/\x.2.size<=1048576:=by
 intro x hx;obtain⟨i,hi,rfl⟩:=List.getElem_of_mem hx;have:=h.sz i;rw[qaF ps i hi] at this;exact this
theorem isave_any (HH:Hid (HashSaid KTab))(n:Int)(a:Option Addr)(ss:List ByteArray)(c:Nat)(a2:Option Addr)(ps:List PairT)(c2:Nat)(w:World)(h:SArg a ss w)(h2:PArg a2 ps w)(hK:KTab w) : Calls prog 30 #[.agg #[.int .i64 n,.slice a ss.length c],.slice a2 ps.length c2] w (SavedIs (saveO n ss ps) w):=by
 have HV:Hid (∀w',Calls prog 52 #[.agg #[.int .i64 n,.slice a ss.length c]] w' λe w''=>e=.returned (.bool (poolOk n ss.length))/\Below w'.heap.size w' w''):=λw'=>qcS n a ss.length c w' h.le;have HM:Hid (∀w',Below w.heap.size w w'->Calls prog 70 #[.slice a2 ps.length c2] w' λe w''=>e=.returned (.bool (isMapT ps))/\Below w'.heap.size w' w''):=λw' hb=>isMap_any a2 ps c2 w' (h2.below hb);have hbA:Below w.heap.size w ((w.alloc (.cells #[.int .i64 n,.slice a ss.length c] 31)).alloc (.cells #[.int .i64 0,.int .i64 0,.slice none 0 0,.string ⟨#[]⟩,.string ⟨#[]⟩,.string ⟨#[]⟩] 56)):=((Below.refl _ _).alloc (Nat.le_refl _) _).alloc (by simp) _;have nB:=heap_alloc_new (w.alloc (.cells #[.int .i64 n,.slice a ss.length c] 31)) (.cells #[.int .i64 0,.int .i64 0,.slice none 0 0,.string ⟨#[]⟩,.string ⟨#[]⟩,.string ⟨#[]⟩] 56);have nA:=(Below.heap_alloc (w.alloc (.cells #[.int .i64 n,.slice a ss.length c] 31)) (.cells #[.int .i64 0,.int .i64 0,.slice none 0 0,.string ⟨#[]⟩,.string ⟨#[]⟩,.string ⟨#[]⟩] 56) w.heap.size (by simp)).trans (heap_alloc_new w _);rw[World.size_alloc] at nB;have HB:Hid (∀W,Below ((w.alloc (.cells #[.int .i64 n,.slice a ss.length c] 31)).alloc (.cells #[.int .i64 0,.int .i64 0,.slice none 0 0,.string ⟨#[]⟩,.string ⟨#[]⟩,.string ⟨#[]⟩] 56)).heap.size ((w.alloc (.cells #[.int .i64 n,.slice a ss.length c] 31)).alloc (.cells #[.int .i64 0,.int .i64 0,.slice none 0 0,.string ⟨#[]⟩,.string ⟨#[]⟩,.string ⟨#[]⟩] 56)) W->Below w.heap.size w W/\SB (w.heap.size+1) 0 0 none 0 0 ⟨#[]⟩ ⟨#[]⟩ ⟨#[]⟩ W/\W.cell? ⟨w.heap.size,0,none⟩=some (.int .i64 n)/\W.cell? ⟨w.heap.size,1,none⟩=some (.slice a ss.length c)):=λW hW=>by
  have e1:=(hW.block w.heap.size (zG nA).1).trans nA;exact⟨hbA.trans (hW.mono hbA.size),(hW.block _ (zG nB).1).trans nB,ZC e1 0,ZC e1 1⟩
 have hge:w.heap.size<=w.heap.size+1:=Nat.le_succ _;clear nA nB;obtain⟨gp,hgp⟩:∃g,w.heap.size=g:=⟨_,rfl⟩;go_enter func30,ntmps30;go_upto_region 1 with fail;generalize (w.alloc (.cells #[.int .i64 n,.slice a ss.length c] 31)).alloc (.cells #[.int .i64 0,.int .i64 0,.slice none 0 0,.string ⟨#[]⟩,.string ⟨#[]⟩,.string ⟨#[]⟩] 56)=wA at hbA HB⊢
 try rw[hgp]
 obtain⟨_,_,p0,p1⟩:=HB.out wA (Below.refl _ _);rw[hgp] at HB hge p0 p1;cases hp:poolOk n ss.length with
 | false =>
  have ho:Hid (saveO n ss ps=codeO 1):=by show _=_;unfold saveO;rw[hp];rfl
  rw[hp] at HV;clear h h2 hK HM HH;go_wp2_with (first|(go_at_call 52;refine(HV.out _).mono ?_;rintro e w1 ⟨rfl,hb1⟩;obtain⟨hbw,hB1,_,_⟩:=HB.out _ hb1;obtain⟨d0,d1,d2,d3,d4,d5,df⟩:=hB1.at));have hge':w.heap.size<=gp+1:=by omega
  exact retS Tryz.results30 rfl rfl (hB1.all 1 0 none 0 0 ⟨#[]⟩ ⟨#[]⟩ ⟨#[]⟩) (by rw[ho.out];exact SavedIs.code (by rw[hgp];exact hbw) hB1 hge')
 | true =>
  rw[hp] at HV;cases hm:isMapT ps with
  | false =>
   have ho:Hid (saveO n ss ps=codeO 1):=(by show _=_;unfold saveO;rw[hp,hm];rfl);rw[hm] at HM;clear h h2 hK HH;go_wp2_with (first|(go_at_call 52;refine(HV.out _).mono ?_;rintro e w1 ⟨rfl,hb1⟩)|(go_at_call 70;refine(HM.out _ (hbA.trans (hb1.mono hbA.size))).mono ?_;rintro e w2 ⟨rfl,hb2⟩;obtain⟨hbw,hB1,_,_⟩:=HB.out _ (hb1.trans (hb2.mono hb1.size));obtain⟨d0,d1,d2,d3,d4,d5,df⟩:=hB1.at));have hge':w.heap.size<=gp+1:=(by omega);exact retS Tryz.results30 rfl rfl (hB1.all 1 0 none 0 0 ⟨#[]⟩ ⟨#[]⟩ ⟨#[]⟩) (by rw[ho.out];exact SavedIs.code (by rw[hgp];exact hbw) hB1 hge')
  | true =>
   have hp':1<=n/\n<=32/\ss.length<=20000:=of_decide_eq_true hp;obtain⟨wd,rfl⟩:∃wd:Nat,n=(wd:Int):=⟨n.toNat,by omega⟩;have ho:Hid (saveO (wd:Int) ss ps=savO wd ss (cutTree ps)):=(by show _=_;unfold saveO;rw[hp,hm];rfl);rw[hm] at HM;have ha:=isMapT_apart ps hm;have hin:=qaE ps;have hsz:∀x ∈ (cutTree ps).inord,x.1.size<=1048576/\x.2.size<=1048576:=(by rw[hin];exact psz h2);have HS:Hid (∀w',Below w.heap.size w w'->Calls prog 54 #[.agg #[.int .i64 (wd:Int),.slice a ss.length c]] w' λe w''=>∃sb r a' c',e=.returned (.pointer (some ⟨sb,0,none⟩))/\StockAt sb r (sb+1) wd ss a' c' w''/\Below w'.heap.size w' w''):=λw' hb=>stockOf_any HH (λw1 w2 h1 hb=>KTab.below h1 hb) wd a ss c w' (h.below hb) (hK.below hb) (by omega);have HT:Hid (∀w',Below w.heap.size w w'->Calls prog 72 #[.slice a2 ps.length c2] w' λe w''=>∃p,e=.returned (.pointer p)/\TA w'.heap.size bare (cutTree ps) p w''/\Below w'.heap.size w' w''):=λw' hb=>by
    have:=treeOf_any rank_said (λw1 w2 k hb=>KTab.below k hb) a2 ps c2 w' (h2.below hb) (hK.below hb);rw[merged_cut ps ha] at this;exact this
   have HX:Hid (∀w3 w4 sb r a' c' p,Below w.heap.size w w3->SB (gp+1) 0 0 none 0 0 ⟨#[]⟩ ⟨#[]⟩ ⟨#[]⟩ w3->StockAt sb r (sb+1) wd ss a' c' w3->TA w3.heap.size bare (cutTree ps) p w4->Below w3.heap.size w3 w4->Calls prog 71 #[.pointer (some ⟨sb,0,none⟩),.pointer p] w4 λe W=>∃a m c,e=.returned (svV (savO wd ss (cutTree ps)).cd (savO wd ss (cutTree ps)).n a m c (savO wd ss (cutTree ps)).root (savO wd ss (cutTree ps)).x (savO wd ss (cutTree ps)).y)/\SB (gp+1) 0 0 none 0 0 ⟨#[]⟩ ⟨#[]⟩ ⟨#[]⟩ W/\SavedIs (savO wd ss (cutTree ps)) w (.returned (svV (savO wd ss (cutTree ps)).cd (savO wd ss (cutTree ps)).n a m c (savO wd ss (cutTree ps)).root (savO wd ss (cutTree ps)).x (savO wd ss (cutTree ps)).y)) (set6 W (gp+1) (savO wd ss (cutTree ps)).cd (savO wd ss (cutTree ps)).n a m c (savO wd ss (cutTree ps)).root (savO wd ss (cutTree ps)).x (savO wd ss (cutTree ps)).y)):=λw3 w4 sb r a' c' p hb3 hB3 hS3 hT4 hb4=>by
    refine(saved_any HH sb r (sb+1) wd ss a' c' (cutTree ps) p w3.heap.size w3 w4 hb4 (Nat.le_refl _) (λW hW=>hS3.below (hb4.trans hW)) (λW hW=>(hK.below hb3).below (hb4.trans hW)) hb4.size hT4 (by rw[hin];exact ha) hsz hp'.2.2 h.sz (by omega) (by omega)).mono ?_;intro e W hE;exact SavedIs.put hE hb3 hB3 (by omega)
   clear h h2 hK HH ha hin hsz hp';generalize savO wd ss (cutTree ps)=O at HX ho;obtain⟨cd,n,xs,root,x,y⟩:=O
   dsimp only at HX
   go_wp2_with (first|(go_at_call 52;refine(HV.out _).mono ?_;rintro e w1 ⟨rfl,hb1⟩)|(go_at_call 70;refine(HM.out _ (hbA.trans (hb1.mono hbA.size))).mono ?_;rintro e w2 ⟨rfl,hb2'⟩;obtain⟨hbw2,hB2,q0,q1⟩:=HB.out _ (hb1.trans (hb2'.mono hb1.size));replace hbw2:Below w.heap.size w w2:=by (rw[hgp];exact hbw2))|(go_at_call 54;refine(HS.out _ hbw2).mono ?_;rintro e w3 ⟨sb,r,a3,c3,rfl,hS3,hb3'⟩;have hB3:SB (gp+1) 0 0 none 0 0 ⟨#[]⟩ ⟨#[]⟩ ⟨#[]⟩ w3:=(hb3'.block _ (zG hB2).1).trans hB2;have hbw3:=hbw2.trans (hb3'.mono hbw2.size);clear q0 q1)|(go_at_call 72;refine(HT.out _ hbw3).mono ?_;rintro e w4 ⟨p,rfl,hT4,hb4⟩)|(go_at_call 71;refine(HX.out _ _ _ _ _ _ _ hbw3 hB3 hS3 hT4 hb4).mono ?_;rintro e w5 ⟨a5,m5,c5,rfl,hB5,hF5⟩;obtain⟨d0,d1,d2,d3,d4,d5,df⟩:=hB5.at));exact retS Tryz.results30 rfl rfl (hB5.all cd n a5 m5 c5 root x y) (by rw[ho.out];exact hF5)
theorem qbj (wd:Nat):∀ (t:Tr PairT),∀e ∈ encsT wd t,e.size<=10000
 | .nil,e,h=>by cases h
 | .node l x r,e,h=>by
  rw[encsT,List.mem_append,List.mem_append] at h
  rcases h with (h|h)|h
  ·exact qbj wd l e h
  ·exact qbj wd r e h
  ·rw[List.mem_singleton] at h
   rw[h]
   exact(qba x.1 x.2 (rootT wd l) (rootT wd r) wd).1
theorem row_sarg {W:World}{base g n c:Nat}{xs:List ByteArray}(h:Row W base g n c (xs.map Value.string))(hl:xs.length<=1048576)(hs:∀j,(xs.getD j ⟨#[]⟩).size<=1048576):SArg (some ⟨g,0,none⟩) xs W:=by
 have hn:n=xs.length:=by have:=h.len;rw[List.length_map] at this;exact this.symm
 subst hn;refine⟨hl,hs,λ_=>⟨g,0,rfl,h.lt,λj hj=>?_⟩⟩;rw[Nat.zero_add,h.cell j hj,List.getElem?_map,List.getElem?_eq_getElem hj,zL,List.getElem?_eq_getElem hj];rfl
theorem same_hit (wd:Nat)(X:List ByteArray)(H:ByteArray):firstI (sameB (X.map (hashT wd)) H) X.length=firstI (hitB wd X H) X.length :=
 qbh λj hj=>by
  unfold sameB hitB
  rw[<-hashT_hit]
  congr 2
  rw[zL,zL,List.getElem?_map,List.getElem?_eq_getElem hj]
  rfl
structure MS (w:World) (gp go ge wd:Nat) (a:Option Addr) (N c K ce:Nat) (es xs ys:List ByteArray) (gh ch:Nat) (ao:Option Addr) (co:Nat) (W:World):Prop where
 par:W.heap[gp]?=some (.cells #[.int .i64 (wd:Int),.slice a N c] 31)
 res:SB (gp+1) 0 0 none 0 0 ⟨#[]⟩ ⟨#[]⟩ ⟨#[]⟩ W
 out:W.heap[go]?=some (.cells #[.int .i64 (wd:Int),.slice ao xs.length co] 31)
 own:OwnT w xs ao xs.length co W
 hs:Row W w.heap.size gh ys.length ch ((ys.map (hashT wd)).map Value.string)
 enc:Row W w.heap.size ge K ce (es.map Value.string)
 n1:gh ≠ gp/\gh ≠ gp+1/\gh ≠ go/\gh ≠ ge
 n2:ge ≠ gp/\ge ≠ gp+1/\ge ≠ go
 n3:∀g,(Value.slice ao xs.length co).ownBlock=some g->g ≠ gh/\g ≠ ge
 n4:go ≠ gp/\w.heap.size<=go
section
variable {w:World} {gp go ge wd:Nat} {a:Option Addr} {N c K ce:Nat} {es xs ys:List ByteArray} {gh ch:Nat} {ao:Option Addr} {co:Nat} {W:World}
theorem MS.below (h:MS w gp go ge wd a N c K ce es xs ys gh ch ao co W){W':World}(hb:Below W.heap.size W W'):MS w gp go ge wd a N c K ce es xs ys gh ch ao co W' :=
 ⟨qap hb h.par,qap hb h.res,qap hb h.out,h.own.below hb,h.hs.below hb,h.enc.below hb,h.n1,h.n2,h.n3,h.n4⟩
theorem MS.notOwn (h:MS w gp go ge wd a N c K ce es xs ys gh ch ao co W){q:Nat}{cs:Array Value}{t:TypeId}(hq:W.heap[q]?=some (.cells cs t))(ht:t ≠ 9):some q ≠ (Value.slice ao xs.length co).ownBlock:=λe=>by
 obtain⟨_,_,cur,h9⟩:=qas h.own.own e.symm;rw[hq] at h9;simp at h9;exact ht h9.2
theorem MS.addOut (h:MS w gp go ge wd a N c K ce es xs ys gh ch ao co W){w4:World}{o:Obj}{g4 c4:Nat}{y:ByteArray}(hown:w4.ownsRow w.heap.size 9 1 (.slice (some ⟨g4,0,none⟩) (xs.length+1) c4) (xs.length+1) (xs.map Value.string++[.string y]))(hgrow:(W.alloc o).grownBy w4 (Value.slice ao xs.length co).ownBlock)(hat:(Value.slice ao xs.length co).ownBlock=some g4\/g4=W.heap.size+1) : MS w gp go ge wd a N c K ce es (xs++[y]) ys gh ch (some ⟨g4,0,none⟩) c4 (w4.setCell ⟨go,1,none⟩ (.slice (some ⟨g4,0,none⟩) (xs.length+1) c4)):=by
 have hlen:(xs++[y]).length=xs.length+1:=by rw[List.length_append];rfl
 have hblk:∀ {q:Nat} {cs:Array Value} {t:TypeId},W.heap[q]?=some (.cells cs t)->t ≠ 9->w4.heap[q]?=some (.cells cs t):=λ{q cs t} hq ht=>by
  have hl:=(zG hq).1;exact(hgrow.block q (by simp;omega) (h.notOwn hq ht)).trans ((Below.heap_alloc W o q hl).trans hq)
 have hrow:∀ {g n' c':Nat} {vs:List Value},Row W w.heap.size g n' c' vs->some g ≠ (Value.slice ao xs.length co).ownBlock->g ≠ go->Row (w4.setCell ⟨go,1,none⟩ (.slice (some ⟨g4,0,none⟩) (xs.length+1) c4)) w.heap.size g n' c' vs:=λ{g n' c' vs} hr hn hg=>((hr.alloc o).kept hgrow hn).kept (qae w4 go 1 _) (λe=>hg (Option.some.inj e));have hT4:OwnT w (xs++[y]) (some ⟨g4,0,none⟩) (xs.length+1) c4 w4:=h.own.more hown hgrow rfl;have ho4:=hblk h.out (by decide);refine⟨(Below.heap_setCell _ _ _ _ (by show gp ≠ go;exact λe=>h.n4.1 e.symm)).trans (hblk h.par (by decide)),?_,by rw[hlen];exact heap_setCell_same w4 go 1 _ 31 _ ho4,by rw[hlen];exact hT4.set ho4 h.n4.2 _,hrow h.hs (λe=>(h.n3 _ e.symm).1 rfl) h.n1.2.2.1,hrow h.enc (λe=>(h.n3 _ e.symm).2 rfl) h.n2.2.2,h.n1,h.n2,?_,h.n4⟩
 ·have hne:gp+1 ≠ go:=λe=>by
   have h1:W.heap[gp+1]?=_:=h.res;rw[e,h.out] at h1;simp at h1
  exact(Below.heap_setCell _ _ _ _ (by show gp+1 ≠ go;exact hne)).trans (hblk h.res (by decide))
 ·intro g hg;have hg':g4=g:=Option.some.inj hg;subst hg';rcases hat with q|q
  ·exact h.n3 _ q
  ·have l1:=h.hs.lt;have l2:=h.enc.lt;omega
theorem MS.addHash (h:MS w gp go ge wd a N c K ce es xs ys gh ch ao co W){w6:World}{o:Obj}{g6 c6:Nat}{y:ByteArray}(hr:Row w6 w.heap.size g6 (ys.length+1) c6 ((ys.map (hashT wd)).map Value.string++[.string (hashT wd y)]))(hgrow:(W.alloc o).grownBy w6 (some gh))(hat:g6=gh\/g6=W.heap.size+1) : MS w gp go ge wd a N c K ce es xs (ys++[y]) g6 c6 ao co w6:=by
 have hlen:(ys++[y]).length=ys.length+1:=by rw[List.length_append];rfl
 have hblk:∀ {q:Nat} {cs:Array Value} {t:TypeId},W.heap[q]?=some (.cells cs t)->q ≠ gh->w6.heap[q]?=some (.cells cs t):=λ{q cs t} hq hn=>by
  have hl:=(zG hq).1;exact(hgrow.block q (by simp;omega) (λe=>hn (Option.some.inj e))).trans ((Below.heap_alloc W o q hl).trans hq)
 have hz:=h.hs.ge;have l2:=h.enc.lt;have l3:=(zG h.par).1;have l4:=(zG (show W.heap[gp+1]?=_ from h.res)).1;have l5:=(zG h.out).1;have n1:=h.n1;have n2:=h.n2;refine⟨hblk h.par (λe=>n1.1 e.symm),hblk h.res (λe=>n1.2.1 e.symm),hblk h.out (λe=>n1.2.2.1 e.symm),⟨qaM h.own.own (λq hv hq=>?_),?_,h.own.len⟩,by rw[hlen,List.map_append,List.map_append];exact hr,(h.enc.alloc o).kept hgrow (λe=>n1.2.2.2 (Option.some.inj e).symm),?_,n2,λg hg=>⟨?_,(h.n3 g hg).2⟩,h.n4⟩
 ·exact(hgrow.block q (by simp;omega) (λe=>(h.n3 q hv).1 (Option.some.inj e))).trans (Below.heap_alloc W o q hq)
 ·have hbA:Below w.heap.size w (W.alloc o):=h.own.bel.alloc h.own.bel.size o;exact hbA.trans (qah hgrow hz hbA.size)
 ·rcases hat with q|q <;> omega
 ·have l6:=(qas h.own.own hg).2.1;have:=(h.n3 g hg).1;rcases hat with q|q <;> omega
end
end Go.Proofs.YtibjhkpgaaapaaaGreatDoor
