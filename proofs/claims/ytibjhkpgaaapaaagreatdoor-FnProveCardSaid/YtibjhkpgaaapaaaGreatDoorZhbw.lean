import Derived.Test.YtibjhkpgaaapaaaGreatDoorZhbs
import Derived.Test.YtibjhkpgaaapaaaGreatDoorZhbv
import Derived.Test.YtibjhkpgaaapaaaGreatDoorZhbk
set_option maxRecDepth 100000
namespace Go.Proofs.YtibjhkpgaaapaaaGreatDoor
open Go.RowKit Go.Proofs.Sha Tryz
theorem smallQ {lo hi over under:ByteArray} {wd:Nat}:∀ {t:PT},okC wd t -> ∀ p ∈ shP lo hi t,p.1.size <= 1048576 /\ p.2.size <= 1048576
 | .e,_,p,hp=>by cases hp
 | .s _,_,p,hp=>by cases hp
 | .f k v l r,⟨hk,hv,hl,hr⟩,p,hp=>by
  have:p ∈ shP lo hi l ++ (if hasW lo hi k=true then [(k,v)] else []) ++ shP lo hi r:=hp
  rcases List.mem_append.1 this with q | q
  · rcases List.mem_append.1 q with q | q
    · exact smallQ (over:=over) (under:=under) hl p q
    · split at q
      · rw [List.mem_singleton.1 q]
        exact ⟨by show k.size <= _;omega,by show v.size <= _;omega⟩
      · cases q
  · exact smallQ (over:=over) (under:=under) hr p q
theorem law_fnprove (a:Option Addr) (xs:List Int) (c:Nat) (w:World) (_hl:xs.length <= maxLen) (hw:∀ x ∈ xs,(Lit.int .u8 x).wf=true)
 (h:0 < xs.length -> ∃ b off:Nat,a=some ⟨b,off,none⟩ /\ b < w.heap.size /\ ∀ j,j < xs.length -> w.cell? ⟨b,off + j,none⟩=some (.int .u8 (xs.getD j 0)))
 (hK:∀ j,j < 64 -> w.cell? ⟨0,j,none⟩=some (.int .u32 ((kTab.getD j 0).toNat:Int))) :
 Calls prog 7 #[.slice a xs.length c] w fun e w'=>e=.returned (.bool true) /\ Below w.heap.size w w':=by
 by_cases g1:1048576 < xs.length
 · have z1:decide ((1048576:Int) < (xs.length:Int))=true:=by simp;omega
   clear hw h hK
   go_enter func7,ntmps7
   go_wp2_with fail
   go_ret
   exact ⟨rfl,Below.refl _ _⟩
 obtain ⟨ys,hyl,hX,hB⟩:=BL.of (by omega) hw h
 rw [<- hyl]
 have hDg:Hid DigSaid:=fun t k w' ht h1 h2=>sdig_yes t k w' ht h1 h2
 obtain ⟨n,ss,roots,root,z,⟨hn0,hn1,hss,hr,hrs,hz⟩,HP⟩:=any_det hDg a ys c 0 hX (by omega)
 obtain ⟨lo,hi,⟨hlo,hhi⟩,HB⟩:=bounds_det a ys c z hX (by omega)
 obtain ⟨D,hdo,HD1,HD2,hde,hdi⟩:=dec_five n
 have hsz:Hid (∀ j,(ss.getD j ⟨#[]⟩).size <= 1048575):=fun j=>Nat.le_trans (hss.getD j) (by omega)
 have HDr:=drange_any a ys c z _ n ss roots root lo hi HP HB
 have HDw:∀ w',Below w.heap.size w w' -> Calls prog 24 #[.slice a ys.length c] w' (RGot n ss root lo hi w'):=fun w' hb=>dprove_any a ys.length c n ss root lo hi w' (fun w'' hb2=>HDr w'' ((hB.below hb).below hb2))
 have HSP:∀ w' ap cp,SArg ap ss w' -> Calls prog 12 #[.agg #[.int .i64 n,.slice ap ss.length cp],.string root,.string lo,.string hi] w' fun e w''=>e=.returned (.tuple #[.string (proveM (fndD D n.toNat ss) n ss.length root lo hi).1,.int .i64 (proveM (fndD D n.toNat ss) n ss.length root lo hi).2]) /\ Below w'.heap.size w' w'':=fun w' ap cp hS=>sprove_any hDg D n HD2 hdo ap ss cp root lo hi w' hS hsz (by omega) (by omega) (by omega)
 have HIP:∀ w' ap cp,SArg ap ss w' -> KT w' -> Calls prog 14 #[.agg #[.int .i64 n,.slice ap ss.length cp],.string root,.string lo,.string hi] w' fun e w''=>e=.returned (.tuple #[.string (proveM (fndD D n.toNat ss) n ss.length root lo hi).1,.int .i64 (proveM (fndD D n.toNat ss) n ss.length root lo hi).2]) /\ Below w'.heap.size w' w'':=fun w' ap cp hS hk=>iprove_any (fun s w' hs hk=>ehash_any s w' hs hk) D n HD1 hdo ap ss cp root lo hi w' hS hk (by omega)
 have hY1:=rangeM_sm D n hdo ss root ⟨#[]⟩ ⟨#[]⟩
 have HLD:∀ w' ap cp,SArg ap ss w' -> Calls prog 25 #[.agg #[.int .i64 n,.slice ap ss.length cp],.string root] w' fun e w''=>∃ a c,e=.returned (.tuple #[.slice a (rangeM (fndD D n.toNat ss) n ss.length root ⟨#[]⟩ ⟨#[]⟩).1.length c,.int .i64 (rangeM (fndD D n.toNat ss) n ss.length root ⟨#[]⟩ ⟨#[]⟩).2]) /\ PArg a (rangeM (fndD D n.toNat ss) n ss.length root ⟨#[]⟩ ⟨#[]⟩).1 w'' /\ (rangeM (fndD D n.toNat ss) n ss.length root ⟨#[]⟩ ⟨#[]⟩).1.length <= c /\ Below w'.heap.size w' w'':=fun w' ap cp hS=>by
  refine (sld_any hDg D n HD2 hdo ap ss cp root w' hS hsz (by omega)).mono ?_
  rintro e w'' ⟨⟨a',c',he,ho⟩,hb⟩
  exact ⟨a',c',he,own2_parg ho hY1.2,own2_le ho,hb⟩
 by_cases hAC:(rangeM (fndD D n.toNat ss) n ss.length root ⟨#[]⟩ ⟨#[]⟩).2=0
 · obtain ⟨wd,ALL,pt,rfl,h1,h2,hA,hmap,hlen,hroot,hpr,hpz,hacc,hsh,hokc,hcf,hcs,hhh,hsv⟩:=prove_facts D n hdo hde hdi ss root lo hi hAC
   rw [hAC,hA] at HLD
   rw [hpr] at HSP HIP
   rw [hA] at hY1
   have hWs:SmallP (wfil lo hi ALL):=by
    rw [<- hsh]
    exact smallP_of (by have:=shP_len lo hi pt;have:=accP_cnt hacc;omega) (smallQ (over:=⟨#[]⟩) (under:=⟨#[]⟩) hokc)
   have hWl:(wfil lo hi ALL).length <= 500:=Nat.le_trans (wfil_le lo hi ALL) hlen
   have hRS:rootS ALL (wd:Int)=root:=by
    have hiw:isW (wd:Int)=true:=by unfold isW;rw [Bool.and_eq_true,decide_eq_true_eq,decide_eq_true_eq];omega
    unfold rootS
    rw [hmap,hiw,Bool.and_self,if_pos rfl,Int.toNat_natCast]
    exact hroot
   have hvr:∀ w',KT w' -> Calls prog 17 #[.int .i64 (wd:Int),.string root,.string lo,.string hi,.string (T (txtP pt))] w' (VrQ (wfil lo hi ALL) true w'):=fun w' hk=>by
    refine (iverify_any (wd:Int) root lo hi (T (txtP pt)) w' hpz (by omega) hk).mono ?_
    rw [hacc]
    rintro e w'' ⟨h3,_,hb⟩
    obtain ⟨a',c',he,ho⟩:=h3 pt rfl
    rw [hsh] at he ho
    exact ⟨a',c',he,own2_parg ho hWs,hb⟩
   have hso:SmT (saveO (wd:Int) [] ALL).xs 500 10000:=by
    rcases hsv with ⟨ad,e,hs,_⟩ | ⟨x,y,e,_⟩
    · rw [e];exact hs
    · rw [e];exact ⟨Nat.zero_le _,fun x hx=>by cases hx⟩
   refine prove_yes a ys.length c (wd:Int) ss root lo hi (T (txtP pt)) 0 ALL w hX.le hK HDw HSP HIP HLD hY1.2 hlen (wfil lo hi ALL) hWs hWl (cP pt) (sP pt) (hT (cutTree ALL)) hcf hcs hhh ?_ hvr ?_ ?_ ?_ (saveO (wd:Int) [] ALL) hso ?_ ?_ hso.len
   · exact fun w' ap cp hp=>wwithin_any ap ALL cp lo hi w' hp (by omega) (by omega)
   · exact fun w'=>counts_any wd h2 pt hokc (T (txtP pt)) rfl hpz w'
   · exact fun w' ap cp hp hc=>height_any ALL.length ap ALL cp w' (Nat.le_refl _) hc hp
   · intro w' ap cp hp hc
     have:=rootSpec_any ap ALL cp (wd:Int) w' hp hc
     rw [hRS] at this
     exact this
   · intro w' ap cp hp hk
     exact isave_any (fun s w' hs hk=>ehash_any s w' hs hk) (wd:Int) none [] 0 ap ALL cp w' ⟨Nat.zero_le _,fun j=>Nat.zero_le _,fun q=>absurd q (Nat.lt_irrefl _)⟩ hp hk
   · rcases hsv with ⟨ad,e,hs,hp⟩ | ⟨x,y,e,hne⟩
     · rw [e]
       refine .inr ⟨rfl,fun w' ap cp hS hk=>?_⟩
       have:=iprove_any (fun s w' hs hk=>ehash_any s w' hs hk) D (wd:Int) HD1 hdo ap ad cp root lo hi w' hS hk (by omega)
       rw [hp] at this
       exact this
     · rw [e]
       exact .inl ⟨rfl,hne⟩
 · exact prove_no a ys.length c n ss root lo hi _ _ _ _ w hX.le hK HDw HSP HIP HLD hAC
end Go.Proofs.YtibjhkpgaaapaaaGreatDoor
