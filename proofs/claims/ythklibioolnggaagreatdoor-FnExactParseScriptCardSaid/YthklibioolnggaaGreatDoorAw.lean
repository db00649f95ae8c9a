import Derived.Test.YthklibioolnggaaGreatDoorAv
namespace Go.Proofs.YthklibioolnggaaGreatDoor
open Go.RowKit Go.Proofs.Sha

theorem zero58 (W : World) : (zeroValue 58).run Tryz.prog W = .ok (.agg #[.string ⟨#[]⟩, .nilFunc]) W := by kernel_rfl

set_option maxRecDepth 100000 in
set_option maxHeartbeats 1000000 in
theorem enter_none (gs r : Nat) (ks : List ByteArray) (vs : List Value) (l : ByteArray) (w : World) (hE : Env w) (hM : MapS r ks vs w) (hl : l.size ≤ 1048576) (hf : findS ((cutB 32 l).getD 0 ⟨#[]⟩) ks vs 0 = none) :
    Calls Tryz.prog 15 #[.pointer (some ⟨gs, 0, none⟩), .map (some r), .string l] w fun e w' => e = .returned (.bool false) ∧ Below w.heap.size w w' := by
  have HC : Hid (∀ W, Env W → Calls Tryz.prog 23 #[.string l, .string ⟨#[32]⟩] W fun e w' => ∃ a, e = .returned (.slice a (cutB 32 l).length (cutB 32 l).length) ∧ TArg a (cutB 32 l) w' ∧ Below W.heap.size W w') := fun W hW => isplit_any2 32 l W hW hl
  have hne := cutB_ne 32 l
  generalize cutB 32 l = P at HC hf hne
  obtain ⟨n, hn⟩ : ∃ n, P.length = n + 1 := ⟨P.length - 1, by omega⟩
  have hPn : Hid (P.length = n + 1) := hn
  rw [hn] at HC
  clear hn hne
  have z1 : (0 : Int) < (n : Int) + 1 := by omega
  have hsn : ∀ (W : World) (a : Addr) (m : Mode), (store a .nilFunc m).run Tryz.prog W = stored Tryz.prog W a .nilFunc m := fun W a m => run_store Tryz.prog W a _ m rfl
  go_enter Tryz.func15, Tryz.ntmps15
  go_upto_region 2 with (first | (go_at_call 23; refine (HC.out _ hE).mono ?_; rintro e w1 ⟨a, rfl, hT, hb1⟩))
  obtain ⟨b, off, rfl, hlt, hc⟩ := hT.at_ (by rw [hPn.out]; omega)
  have c1 := hc 0 (by rw [hPn.out]; omega)
  rw [Nat.add_zero] at c1
  have hlk := run_lookS (hM.below hb1) (P.getD 0 ⟨#[]⟩) _ (zero58 w1)
  rw [hf] at hlk
  generalize P.getD 0 ⟨#[]⟩ = x at c1 hlk hf
  simp only [Option.map_none, Option.getD_none, Option.isSome_none] at hlk
  clear hc HC hf
  go_wp2_with fail
  go_ret
  exact ⟨rfl, hb1.alloc hb1.size _⟩

set_option maxRecDepth 100000 in
set_option maxHeartbeats 2000000 in
theorem enter_op (gs r : Nat) (ks : List ByteArray) (vs : List Value) (i : Nat) (sh : ByteArray) (g : Nat) (l : ByteArray) (w : World) (Z : World → Prop) (hE : Env w) (hM : MapS r ks vs w) (hl : l.size ≤ 1048576) (hs : sh.size ≤ 10) (hf : findS ((cutB 32 l).getD 0 ⟨#[]⟩) ks vs 0 = some (i, .agg #[.string sh, (.func (.func 55) #[] #[.pointer (some ⟨g, 0, none⟩)] : Value)]))
    (ts : List ByteArray) (hts : (cutB 32 l).tail = ts) (SH : List UInt8) (hSH : shI sh ts.length = SH) (ws : List ByteArray) (hws : wordsT SH ts = ws) (ns : List Int) (hns : numsT SH ts = ns)
    (HZ : ∀ W aw cw an cn, allT SH ts = true → Below w.heap.size w W → W.ownsRow w.heap.size 9 1 (.slice aw ws.length cw) ws.length (ws.map Value.string) → W.ownsRow w.heap.size 3 1 (.slice an ns.length cn) ns.length (ns.map I) → Calls Tryz.prog 55 #[.pointer (some ⟨gs, 0, none⟩), .agg #[.slice aw ws.length cw, .slice an ns.length cn], .pointer (some ⟨g, 0, none⟩)] W fun e w' => e = .returned (.tuple #[]) ∧ Z w') :
    Calls Tryz.prog 15 #[.pointer (some ⟨gs, 0, none⟩), .map (some r), .string l] w fun e w' => (allT SH ts = true ∧ e = .returned (.bool true) ∧ Z w') ∨ (allT SH ts = false ∧ e = .returned (.bool false) ∧ Below w.heap.size w w') := by
  obtain ⟨R, hR⟩ : ∃ R : Ending → World → Prop, (fun e w' => (allT SH ts = true ∧ e = .returned (.bool true) ∧ Z w') ∨ (allT SH ts = false ∧ e = .returned (.bool false) ∧ Below w.heap.size w w')) = R := ⟨_, rfl⟩
  have hRy : Hid (∀ e w', allT SH ts = true → e = .returned (.bool true) → Z w' → R e w') := fun e w' h1 h2 h3 => by rw [← hR]; exact .inl ⟨h1, h2, h3⟩
  have hRn : Hid (∀ e w', allT SH ts = false → e = .returned (.bool false) → Below w.heap.size w w' → R e w') := fun e w' h1 h2 h3 => by rw [← hR]; exact .inr ⟨h1, h2, h3⟩
  rw [hR]
  clear hR
  have HC : Hid (∀ W, Env W → Calls Tryz.prog 23 #[.string l, .string ⟨#[32]⟩] W fun e w' => ∃ a, e = .returned (.slice a (cutB 32 l).length (cutB 32 l).length) ∧ TArg a (cutB 32 l) w' ∧ Below W.heap.size W w') := fun W hW => isplit_any2 32 l W hW hl
  have hne := cutB_ne 32 l
  have hsz := cutB_size 32 l
  generalize cutB 32 l = P at HC hf hne hts hsz
  obtain ⟨n, hn⟩ : ∃ n, P.length = n + 1 := ⟨P.length - 1, by omega⟩
  have hPn : Hid (P.length = n + 1) := hn
  have htn : ts.length = n := by rw [← hts, List.length_tail, hn]; rfl
  have htz : ∀ x ∈ ts, x.size ≤ 1048576 := fun x hx => by rw [← hts] at hx; exact Nat.le_trans (hsz.2 x (List.mem_of_mem_tail hx)) hl
  have hn2 : n ≤ 1048576 := by have := hsz.1; omega
  rw [hn] at HC
  have hfo : (.func (.func 55) #[] #[.pointer (some ⟨g, 0, none⟩)] : Value).oneCell' = true := rfl
  have HRD : Hid (∀ W a c, Env W → TArg a ts W → Calls Tryz.prog 27 #[.agg #[.string sh, (.func (.func 55) #[] #[.pointer (some ⟨g, 0, none⟩)] : Value)], .slice a n c] W (ReadPost SH ts W)) := fun W a c hE hT => by
    have := read_any sh ((.func (.func 55) #[] #[.pointer (some ⟨g, 0, none⟩)] : Value)) a ts c W hE hT hs (by omega) htz hfo
    rw [hSH, htn] at this
    exact this
  have HZ' : Hid (∀ W aw cw an cn, allT SH ts = true → Below w.heap.size w W → W.ownsRow w.heap.size 9 1 (.slice aw ws.length cw) ws.length (ws.map Value.string) → W.ownsRow w.heap.size 3 1 (.slice an ns.length cn) ns.length (ns.map I) → Calls Tryz.prog 55 #[.pointer (some ⟨gs, 0, none⟩), .agg #[.slice aw ws.length cw, .slice an ns.length cn], .pointer (some ⟨g, 0, none⟩)] W fun e w' => e = .returned (.tuple #[]) ∧ Z w') := HZ
  have hts' : Hid (P.tail = ts) := hts
  have hws' : Hid (wordsT SH ts = ws ∧ numsT SH ts = ns) := ⟨hws, hns⟩
  replace htn : Hid (ts.length = n) := htn
  clear hn hne hts hsz hSH htz hws hns HZ hs hl hfo
  have hsf : ∀ (W : World) (a : Addr) (f : Fn) (x y : Array Value) (m : Mode), (store a (.func f x y) m).run Tryz.prog W = stored Tryz.prog W a (.func f x y) m := fun W a f x y m => run_store Tryz.prog W a _ m rfl
  have z1 : (0 : Int) < (n : Int) + 1 := by omega
  have z2 : (1 : Int) ≤ (n : Int) + 1 := by omega
  go_enter Tryz.func15, Tryz.ntmps15
  go_upto_region 2 with (first | (go_at_call 23; refine (HC.out _ hE).mono ?_; rintro e w1 ⟨a, rfl, hT, hb1⟩))
  obtain ⟨b, off, rfl, hlt, hc⟩ := hT.at_ (by rw [hPn.out]; omega)
  have c1 := hc 0 (by rw [hPn.out]; omega)
  rw [Nat.add_zero] at c1
  have hlk := run_lookS (hM.below hb1) (P.getD 0 ⟨#[]⟩) _ (zero58 w1)
  rw [hf] at hlk
  generalize P.getD 0 ⟨#[]⟩ = x at c1 hlk hf
  simp only [Option.map_some, Option.getD_some, Option.isSome_some] at hlk
  have hTt := hT.tail
  rw [hts'.out] at hTt
  clear hc HC hf hT
  have nK := heap_alloc_new w1 (.cells #[.string sh, (.func (.func 55) #[] #[.pointer (some ⟨g, 0, none⟩)] : Value)] 58)
  have bK : Below w1.heap.size w1 (w1.alloc (.cells #[.string sh, (.func (.func 55) #[] #[.pointer (some ⟨g, 0, none⟩)] : Value)] 58)) := (Below.refl _ _).alloc (Nat.le_refl _) _
  go_upto_region 5 with fail
  generalize w1.alloc (.cells #[.string sh, (.func (.func 55) #[] #[.pointer (some ⟨g, 0, none⟩)] : Value)] 58) = w2 at nK bK ⊢
  obtain ⟨gk, hgk⟩ : ∃ g, w1.heap.size = g := ⟨_, rfl⟩
  rw [hgk] at nK
  try rw [hgk]
  have hgkl : Hid (w.heap.size ≤ gk) := by rw [← hgk]; exact hb1.size
  clear hgk
  have bw2 := hb1.trans (bK.mono hb1.size)
  have hT2 := hTt.below bK
  have hE2 := hE.below bw2
  clear bK hb1 hTt hlk c1 hlt
  have hdw : Below w2.heap.size w2 w2.drew := (Below.refl _ _).drew
  have bwq := bw2.trans (hdw.mono bw2.size)
  have hTq := hT2.below hdw
  have hEq := hE2.below hdw
  have nKq : w2.drew.heap[gk]? = some (.cells #[.string sh, (.func (.func 55) #[] #[.pointer (some ⟨g, 0, none⟩)] : Value)] 58) := nK
  refine wp_region_held_drew (S := fun W => W.heap[gk]? = some (.cells #[.string sh, (.func (.func 55) #[] #[.pointer (some ⟨g, 0, none⟩)] : Value)] 58)) (by kernel_rfl) nKq (fun hHeld => ?_)
  generalize w2.drew = wq at bwq hTq hEq nKq hHeld ⊢
  clear hdw hT2 hE2 nK bw2
  refine tkH (i := 0) (by rfl) (Or.inl ⟨by rfl, fun W hSW => by have k0 := Lib.cell_of_heap hSW 0; have k1 := Lib.cell_of_heap hSW 1; go_simp; rfl⟩) ?_
  simp only [Act.put, zq]
  refine tkI 1 ?_
  simp only [Act.put, zq]
  refine tkI 2 ?_
  simp only [Act.put, zq]
  obtain ⟨ap, hap⟩ : ∃ ap, (if n = 0 then some (⟨b, off, none⟩ : Addr) else some ⟨b, off + 1, none⟩) = ap := ⟨_, rfl⟩
  rw [hap]
  replace hTq : TArg ap ts wq := by
    rw [← hap]
    split
    · rename_i h0
      exact ⟨fun h => absurd h (by rw [htn.out, h0]; simp)⟩
    · exact hTq
  clear hap
  refine wpAnyH_ready (rs := [3, 7]) (by kernel_rfl) (by simp) ?_
  refine AllReadyH.cons rfl (fun K hK => ?_) (AllReadyH.cons rfl (fun K hK => ?_) AllReadyH.nil)
  · go_simp
    refine (HRD.out _ _ _ hEq hTq).mono ?_
    rintro e wa hrp
    rcases hrp with ⟨hal, aw, cw, an, cn, rfl, how, hon, hba⟩ | ⟨hal, rfl, hba⟩
    · rw [hws'.out.1] at how
      rw [hws'.out.2] at hon
      rw [hws'.out.1, hws'.out.2]
      have nKa := (hba.block gk (Array.getElem?_eq_some_iff.1 nKq).1).trans nKq
      have bwa := bwq.trans (hba.mono bwq.size)
      refine hK.out _ _ nKa (fun hHeld => ?_)
      clear hK K
      refine tkI 4 ?_
      simp only [Act.put, zq]
      refine tkI 5 ?_
      simp only [Act.put, zq]
      refine tkI 6 ?_
      simp only [Act.put, zq]
      refine rdH 7 (fun K hK => ?_)
      have nP := heap_alloc_new wa (.cells #[.slice none 0 0, .slice none 0 0] 55)
      have bP : Below wa.heap.size wa (wa.alloc (.cells #[.slice none 0 0, .slice none 0 0] 55)) := (Below.refl _ _).alloc (Nat.le_refl _) _
      have nKp := (bP.block gk (Array.getElem?_eq_some_iff.1 nKa).1).trans nKa
      go_simp
      refine hK.out _ _ nKp (fun hHeld => ?_)
      clear hK K
      generalize wa.alloc (.cells #[.slice none 0 0, .slice none 0 0] 55) = wp at nP bP nKp hHeld ⊢
      obtain ⟨gp, hgp⟩ : ∃ g, wa.heap.size = g := ⟨_, rfl⟩
      have hgpl : w.heap.size ≤ gp := by rw [← hgp]; exact bwa.size
      rw [hgp] at nP
      try rw [hgp]
      clear hgp
      have bwp := bwa.trans (bP.mono bwa.size)
      have howp := ownG_kept how (fun q _ hq => bP.block q hq)
      have honp := ownG_kept hon (fun q _ hq => bP.block q hq)
      have p0 := Lib.cell_of_heap nP 0
      have p1 := Lib.cell_of_heap nP 1
      have ff : ∀ f, wp.frozen? ⟨gp, f, none⟩ = false := fun f => by rw [World.frozen?, nP]; rfl
      have nP2 := set2_heap nP (.slice aw ws.length cw) (.slice an ns.length cn)
      have bwz := set2_below bwp hgpl (.slice aw ws.length cw) (.slice an ns.length cn)
      have nKz : (set2 wp gp (.slice aw ws.length cw) (.slice an ns.length cn)).heap[gk]? = some _ := (by unfold set2; rw [Below.heap_setCell _ _ _ _ (by exact ne_of_type nKp nP (by decide)), Below.heap_setCell _ _ _ _ (by exact ne_of_type nKp nP (by decide))]; exact nKp)
      have howz := own_set2 (ownG_mono howp bwq.size) nP (by decide) (.slice aw ws.length cw) (.slice an ns.length cn)
      have honz := own_set2 (ownG_mono honp bwq.size) nP (by decide) (.slice aw ws.length cw) (.slice an ns.length cn)
      refine rdH 8 (fun K hK => ?_)
      go_simp
      refine hK.out _ _ nKz (fun hHeld => ?_)
      clear hK K p0 p1 ff
      refine tkI 9 ?_
      simp only [Act.put, zq]
      refine wpAnyH_done (by kernel_rfl) ?_ _
      unfold set2 at nP2 bwz nKz howz honz
      generalize (wp.setCell ⟨gp, 0, none⟩ (.slice aw ws.length cw)).setCell ⟨gp, 1, none⟩ (.slice an ns.length cn) = wz at nP2 bwz nKz howz honz hHeld ⊢
      have k1 := Lib.cell_of_heap nKz 1
      have p0 := Lib.cell_of_heap nP2 0
      have p1 := Lib.cell_of_heap nP2 1
      have HZ2 := HZ'.out wz aw cw an cn hal bwz howz honz
      have HZ3 := fun (_ : Unit) => HZ2
      clear HZ2 HZ' hon how hba
      go_wp2_with (first | (go_at_call 55; refine (HZ3 ()).mono ?_; rintro e wy ⟨rfl, hzz⟩))
      exact hRy.out _ _ hal rfl hzz
    · unfold noParts
      have nKa := (hba.block gk (Array.getElem?_eq_some_iff.1 nKq).1).trans nKq
      have bwa := bwq.trans (hba.mono bwq.size)
      refine hK.out _ _ nKa (fun hHeld => ?_)
      clear hK K
      refine tkI 4 ?_
      simp only [Act.put, zq]
      refine tkI 5 ?_
      simp only [Act.put, zq]
      refine tkI 6 ?_
      simp only [Act.put, zq]
      refine rdH 7 (fun K hK => ?_)
      have nP := heap_alloc_new wa (.cells #[.slice none 0 0, .slice none 0 0] 55)
      have bP : Below wa.heap.size wa (wa.alloc (.cells #[.slice none 0 0, .slice none 0 0] 55)) := (Below.refl _ _).alloc (Nat.le_refl _) _
      have nKp := (bP.block gk (Array.getElem?_eq_some_iff.1 nKa).1).trans nKa
      go_simp
      refine hK.out _ _ nKp (fun hHeld => ?_)
      clear hK K
      generalize wa.alloc (.cells #[.slice none 0 0, .slice none 0 0] 55) = wp at nP bP nKp hHeld ⊢
      obtain ⟨gp, hgp⟩ : ∃ g, wa.heap.size = g := ⟨_, rfl⟩
      have hgpl : w.heap.size ≤ gp := by rw [← hgp]; exact bwa.size
      rw [hgp] at nP
      try rw [hgp]
      clear hgp
      have bwp := bwa.trans (bP.mono bwa.size)
      have p0 := Lib.cell_of_heap nP 0
      have p1 := Lib.cell_of_heap nP 1
      have ff : ∀ f, wp.frozen? ⟨gp, f, none⟩ = false := fun f => by rw [World.frozen?, nP]; rfl
      have nP2 := set2_heap nP (.slice none 0 0) (.slice none 0 0)
      have bwz := set2_below bwp hgpl (.slice none 0 0) (.slice none 0 0)
      have nKz : (set2 wp gp (.slice none 0 0) (.slice none 0 0)).heap[gk]? = some _ := (by unfold set2; rw [Below.heap_setCell _ _ _ _ (by exact ne_of_type nKp nP (by decide)), Below.heap_setCell _ _ _ _ (by exact ne_of_type nKp nP (by decide))]; exact nKp)
      refine rdH 8 (fun K hK => ?_)
      go_simp
      refine hK.out _ _ nKz (fun hHeld => ?_)
      clear hK K p0 p1 ff
      refine tkI 9 ?_
      simp only [Act.put, zq]
      refine wpAnyH_done (by kernel_rfl) ?_ _
      unfold set2 at nP2 bwz nKz
      generalize (wp.setCell ⟨gp, 0, none⟩ (.slice none 0 0)).setCell ⟨gp, 1, none⟩ (.slice none 0 0) = wz at nP2 bwz nKz hHeld ⊢
      go_wp2_with fail
      exact hRn.out _ _ hal rfl bwz
  · have nPb := heap_alloc_new wq (.cells #[.slice none 0 0, .slice none 0 0] 55)
    have bPb : Below wq.heap.size wq (wq.alloc (.cells #[.slice none 0 0, .slice none 0 0] 55)) := (Below.refl _ _).alloc (Nat.le_refl _) _
    have nKb := (bPb.block gk (Array.getElem?_eq_some_iff.1 nKq).1).trans nKq
    go_simp
    refine hK.out _ _ nKb (fun hHeld => ?_)
    clear hK K
    generalize wq.alloc (.cells #[.slice none 0 0, .slice none 0 0] 55) = wb at nPb bPb nKb hHeld ⊢
    obtain ⟨gp, hgp⟩ : ∃ g, wq.heap.size = g := ⟨_, rfl⟩
    have hgpl : w.heap.size ≤ gp := by rw [← hgp]; exact bwq.size
    rw [hgp] at nPb
    try rw [hgp]
    clear hgp
    have bwb := bwq.trans (bPb.mono bwq.size)
    have hEb := hEq.below bPb
    have hTb := hTq.below bPb
    refine rdH 3 (fun K hK => ?_)
    go_simp
    refine (HRD.out _ _ _ hEb hTb).mono ?_
    rintro e wa hrp
    rcases hrp with ⟨hal, aw, cw, an, cn, rfl, how, hon, hba⟩ | ⟨hal, rfl, hba⟩
    · rw [hws'.out.1] at how
      rw [hws'.out.2] at hon
      rw [hws'.out.1, hws'.out.2]
      have nKa := (hba.block gk (Array.getElem?_eq_some_iff.1 nKb).1).trans nKb
      have bwa := bwb.trans (hba.mono bwb.size)
      refine hK.out _ _ nKa (fun hHeld => ?_)
      clear hK K
      refine tkI 4 ?_
      simp only [Act.put, zq]
      refine tkI 5 ?_
      simp only [Act.put, zq]
      refine tkI 6 ?_
      simp only [Act.put, zq]
      have nP := (hba.block gp (Array.getElem?_eq_some_iff.1 nPb).1).trans nPb
      have nKp := nKa
      have bwp := bwa
      have howp := how
      have honp := hon
      have p0 := Lib.cell_of_heap nP 0
      have p1 := Lib.cell_of_heap nP 1
      have ff : ∀ f, wa.frozen? ⟨gp, f, none⟩ = false := fun f => by rw [World.frozen?, nP]; rfl
      have nP2 := set2_heap nP (.slice aw ws.length cw) (.slice an ns.length cn)
      have bwz := set2_below bwp hgpl (.slice aw ws.length cw) (.slice an ns.length cn)
      have nKz : (set2 wa gp (.slice aw ws.length cw) (.slice an ns.length cn)).heap[gk]? = some _ := (by unfold set2; rw [Below.heap_setCell _ _ _ _ (by exact ne_of_type nKp nP (by decide)), Below.heap_setCell _ _ _ _ (by exact ne_of_type nKp nP (by decide))]; exact nKp)
      have howz := own_set2 (ownG_mono howp bwb.size) nP (by decide) (.slice aw ws.length cw) (.slice an ns.length cn)
      have honz := own_set2 (ownG_mono honp bwb.size) nP (by decide) (.slice aw ws.length cw) (.slice an ns.length cn)
      refine rdH 8 (fun K hK => ?_)
      go_simp
      refine hK.out _ _ nKz (fun hHeld => ?_)
      clear hK K p0 p1 ff
      refine tkI 9 ?_
      simp only [Act.put, zq]
      refine wpAnyH_done (by kernel_rfl) ?_ _
      unfold set2 at nP2 bwz nKz howz honz
      generalize (wa.setCell ⟨gp, 0, none⟩ (.slice aw ws.length cw)).setCell ⟨gp, 1, none⟩ (.slice an ns.length cn) = wz at nP2 bwz nKz howz honz hHeld ⊢
      have k1 := Lib.cell_of_heap nKz 1
      have p0 := Lib.cell_of_heap nP2 0
      have p1 := Lib.cell_of_heap nP2 1
      have HZ2 := HZ'.out wz aw cw an cn hal bwz howz honz
      have HZ3 := fun (_ : Unit) => HZ2
      clear HZ2 HZ' hon how hba
      go_wp2_with (first | (go_at_call 55; refine (HZ3 ()).mono ?_; rintro e wy ⟨rfl, hzz⟩))
      exact hRy.out _ _ hal rfl hzz
    · unfold noParts
      have nKa := (hba.block gk (Array.getElem?_eq_some_iff.1 nKb).1).trans nKb
      have bwa := bwb.trans (hba.mono bwb.size)
      refine hK.out _ _ nKa (fun hHeld => ?_)
      clear hK K
      refine tkI 4 ?_
      simp only [Act.put, zq]
      refine tkI 5 ?_
      simp only [Act.put, zq]
      refine tkI 6 ?_
      simp only [Act.put, zq]
      have nP := (hba.block gp (Array.getElem?_eq_some_iff.1 nPb).1).trans nPb
      have nKp := nKa
      have bwp := bwa
      have p0 := Lib.cell_of_heap nP 0
      have p1 := Lib.cell_of_heap nP 1
      have ff : ∀ f, wa.frozen? ⟨gp, f, none⟩ = false := fun f => by rw [World.frozen?, nP]; rfl
      have nP2 := set2_heap nP (.slice none 0 0) (.slice none 0 0)
      have bwz := set2_below bwp hgpl (.slice none 0 0) (.slice none 0 0)
      have nKz : (set2 wa gp (.slice none 0 0) (.slice none 0 0)).heap[gk]? = some _ := (by unfold set2; rw [Below.heap_setCell _ _ _ _ (by exact ne_of_type nKp nP (by decide)), Below.heap_setCell _ _ _ _ (by exact ne_of_type nKp nP (by decide))]; exact nKp)
      refine rdH 8 (fun K hK => ?_)
      go_simp
      refine hK.out _ _ nKz (fun hHeld => ?_)
      clear hK K p0 p1 ff
      refine tkI 9 ?_
      simp only [Act.put, zq]
      refine wpAnyH_done (by kernel_rfl) ?_ _
      unfold set2 at nP2 bwz nKz
      generalize (wa.setCell ⟨gp, 0, none⟩ (.slice none 0 0)).setCell ⟨gp, 1, none⟩ (.slice none 0 0) = wz at nP2 bwz nKz hHeld ⊢
      go_wp2_with fail
      exact hRn.out _ _ hal rfl bwz

set_option maxRecDepth 100000 in
set_option maxHeartbeats 2000000 in
theorem enter_width (gs r : Nat) (ks : List ByteArray) (vs : List Value) (i : Nat) (sh : ByteArray) (l : ByteArray) (w : World) (Z : World → Prop) (hE : Env w) (hM : MapS r ks vs w) (hl : l.size ≤ 1048576) (hs : sh.size ≤ 10) (hf : findS ((cutB 32 l).getD 0 ⟨#[]⟩) ks vs 0 = some (i, .agg #[.string sh, (.func (.func 24) #[] #[] : Value)]))
    (ts : List ByteArray) (hts : (cutB 32 l).tail = ts) (SH : List UInt8) (hSH : shI sh ts.length = SH) (ws : List ByteArray) (hws : wordsT SH ts = ws) (ns : List Int) (hns : numsT SH ts = ns)
    (HZ : ∀ W aw cw an cn, allT SH ts = true → Below w.heap.size w W → W.ownsRow w.heap.size 9 1 (.slice aw ws.length cw) ws.length (ws.map Value.string) → W.ownsRow w.heap.size 3 1 (.slice an ns.length cn) ns.length (ns.map I) → Calls Tryz.prog 24 #[.pointer (some ⟨gs, 0, none⟩), .agg #[.slice aw ws.length cw, .slice an ns.length cn]] W fun e w' => e = .returned (.tuple #[]) ∧ Z w') :
    Calls Tryz.prog 15 #[.pointer (some ⟨gs, 0, none⟩), .map (some r), .string l] w fun e w' => (allT SH ts = true ∧ e = .returned (.bool true) ∧ Z w') ∨ (allT SH ts = false ∧ e = .returned (.bool false) ∧ Below w.heap.size w w') := by
  obtain ⟨R, hR⟩ : ∃ R : Ending → World → Prop, (fun e w' => (allT SH ts = true ∧ e = .returned (.bool true) ∧ Z w') ∨ (allT SH ts = false ∧ e = .returned (.bool false) ∧ Below w.heap.size w w')) = R := ⟨_, rfl⟩
  have hRy : Hid (∀ e w', allT SH ts = true → e = .returned (.bool true) → Z w' → R e w') := fun e w' h1 h2 h3 => by rw [← hR]; exact .inl ⟨h1, h2, h3⟩
  have hRn : Hid (∀ e w', allT SH ts = false → e = .returned (.bool false) → Below w.heap.size w w' → R e w') := fun e w' h1 h2 h3 => by rw [← hR]; exact .inr ⟨h1, h2, h3⟩
  rw [hR]
  clear hR
  have HC : Hid (∀ W, Env W → Calls Tryz.prog 23 #[.string l, .string ⟨#[32]⟩] W fun e w' => ∃ a, e = .returned (.slice a (cutB 32 l).length (cutB 32 l).length) ∧ TArg a (cutB 32 l) w' ∧ Below W.heap.size W w') := fun W hW => isplit_any2 32 l W hW hl
  have hne := cutB_ne 32 l
  have hsz := cutB_size 32 l
  generalize cutB 32 l = P at HC hf hne hts hsz
  obtain ⟨n, hn⟩ : ∃ n, P.length = n + 1 := ⟨P.length - 1, by omega⟩
  have hPn : Hid (P.length = n + 1) := hn
  have htn : ts.length = n := by rw [← hts, List.length_tail, hn]; rfl
  have htz : ∀ x ∈ ts, x.size ≤ 1048576 := fun x hx => by rw [← hts] at hx; exact Nat.le_trans (hsz.2 x (List.mem_of_mem_tail hx)) hl
  have hn2 : n ≤ 1048576 := by have := hsz.1; omega
  rw [hn] at HC
  have hfo : (.func (.func 24) #[] #[] : Value).oneCell' = true := rfl
  have HRD : Hid (∀ W a c, Env W → TArg a ts W → Calls Tryz.prog 27 #[.agg #[.string sh, (.func (.func 24) #[] #[] : Value)], .slice a n c] W (ReadPost SH ts W)) := fun W a c hE hT => by
    have := read_any sh ((.func (.func 24) #[] #[] : Value)) a ts c W hE hT hs (by omega) htz hfo
    rw [hSH, htn] at this
    exact this
  have HZ' : Hid (∀ W aw cw an cn, allT SH ts = true → Below w.heap.size w W → W.ownsRow w.heap.size 9 1 (.slice aw ws.length cw) ws.length (ws.map Value.string) → W.ownsRow w.heap.size 3 1 (.slice an ns.length cn) ns.length (ns.map I) → Calls Tryz.prog 24 #[.pointer (some ⟨gs, 0, none⟩), .agg #[.slice aw ws.length cw, .slice an ns.length cn]] W fun e w' => e = .returned (.tuple #[]) ∧ Z w') := HZ
  have hts' : Hid (P.tail = ts) := hts
  have hws' : Hid (wordsT SH ts = ws ∧ numsT SH ts = ns) := ⟨hws, hns⟩
  replace htn : Hid (ts.length = n) := htn
  clear hn hne hts hsz hSH htz hws hns HZ hs hl hfo
  have hsf : ∀ (W : World) (a : Addr) (f : Fn) (x y : Array Value) (m : Mode), (store a (.func f x y) m).run Tryz.prog W = stored Tryz.prog W a (.func f x y) m := fun W a f x y m => run_store Tryz.prog W a _ m rfl
  have z1 : (0 : Int) < (n : Int) + 1 := by omega
  have z2 : (1 : Int) ≤ (n : Int) + 1 := by omega
  go_enter Tryz.func15, Tryz.ntmps15
  go_upto_region 2 with (first | (go_at_call 23; refine (HC.out _ hE).mono ?_; rintro e w1 ⟨a, rfl, hT, hb1⟩))
  obtain ⟨b, off, rfl, hlt, hc⟩ := hT.at_ (by rw [hPn.out]; omega)
  have c1 := hc 0 (by rw [hPn.out]; omega)
  rw [Nat.add_zero] at c1
  have hlk := run_lookS (hM.below hb1) (P.getD 0 ⟨#[]⟩) _ (zero58 w1)
  rw [hf] at hlk
  generalize P.getD 0 ⟨#[]⟩ = x at c1 hlk hf
  simp only [Option.map_some, Option.getD_some, Option.isSome_some] at hlk
  have hTt := hT.tail
  rw [hts'.out] at hTt
  clear hc HC hf hT
  have nK := heap_alloc_new w1 (.cells #[.string sh, (.func (.func 24) #[] #[] : Value)] 58)
  have bK : Below w1.heap.size w1 (w1.alloc (.cells #[.string sh, (.func (.func 24) #[] #[] : Value)] 58)) := (Below.refl _ _).alloc (Nat.le_refl _) _
  go_upto_region 5 with fail
  generalize w1.alloc (.cells #[.string sh, (.func (.func 24) #[] #[] : Value)] 58) = w2 at nK bK ⊢
  obtain ⟨gk, hgk⟩ : ∃ g, w1.heap.size = g := ⟨_, rfl⟩
  rw [hgk] at nK
  try rw [hgk]
  have hgkl : Hid (w.heap.size ≤ gk) := by rw [← hgk]; exact hb1.size
  clear hgk
  have bw2 := hb1.trans (bK.mono hb1.size)
  have hT2 := hTt.below bK
  have hE2 := hE.below bw2
  clear bK hb1 hTt hlk c1 hlt
  have hdw : Below w2.heap.size w2 w2.drew := (Below.refl _ _).drew
  have bwq := bw2.trans (hdw.mono bw2.size)
  have hTq := hT2.below hdw
  have hEq := hE2.below hdw
  have nKq : w2.drew.heap[gk]? = some (.cells #[.string sh, (.func (.func 24) #[] #[] : Value)] 58) := nK
  refine wp_region_held_drew (S := fun W => W.heap[gk]? = some (.cells #[.string sh, (.func (.func 24) #[] #[] : Value)] 58)) (by kernel_rfl) nKq (fun hHeld => ?_)
  generalize w2.drew = wq at bwq hTq hEq nKq hHeld ⊢
  clear hdw hT2 hE2 nK bw2
  refine tkH (i := 0) (by rfl) (Or.inl ⟨by rfl, fun W hSW => by have k0 := Lib.cell_of_heap hSW 0; have k1 := Lib.cell_of_heap hSW 1; go_simp; rfl⟩) ?_
  simp only [Act.put, zq]
  refine tkI 1 ?_
  simp only [Act.put, zq]
  refine tkI 2 ?_
  simp only [Act.put, zq]
  obtain ⟨ap, hap⟩ : ∃ ap, (if n = 0 then some (⟨b, off, none⟩ : Addr) else some ⟨b, off + 1, none⟩) = ap := ⟨_, rfl⟩
  rw [hap]
  replace hTq : TArg ap ts wq := by
    rw [← hap]
    split
    · rename_i h0
      exact ⟨fun h => absurd h (by rw [htn.out, h0]; simp)⟩
    · exact hTq
  clear hap
  refine wpAnyH_ready (rs := [3, 7]) (by kernel_rfl) (by simp) ?_
  refine AllReadyH.cons rfl (fun K hK => ?_) (AllReadyH.cons rfl (fun K hK => ?_) AllReadyH.nil)
  · go_simp
    refine (HRD.out _ _ _ hEq hTq).mono ?_
    rintro e wa hrp
    rcases hrp with ⟨hal, aw, cw, an, cn, rfl, how, hon, hba⟩ | ⟨hal, rfl, hba⟩
    · rw [hws'.out.1] at how
      rw [hws'.out.2] at hon
      rw [hws'.out.1, hws'.out.2]
      have nKa := (hba.block gk (Array.getElem?_eq_some_iff.1 nKq).1).trans nKq
      have bwa := bwq.trans (hba.mono bwq.size)
      refine hK.out _ _ nKa (fun hHeld => ?_)
      clear hK K
      refine tkI 4 ?_
      simp only [Act.put, zq]
      refine tkI 5 ?_
      simp only [Act.put, zq]
      refine tkI 6 ?_
      simp only [Act.put, zq]
      refine rdH 7 (fun K hK => ?_)
      have nP := heap_alloc_new wa (.cells #[.slice none 0 0, .slice none 0 0] 55)
      have bP : Below wa.heap.size wa (wa.alloc (.cells #[.slice none 0 0, .slice none 0 0] 55)) := (Below.refl _ _).alloc (Nat.le_refl _) _
      have nKp := (bP.block gk (Array.getElem?_eq_some_iff.1 nKa).1).trans nKa
      go_simp
      refine hK.out _ _ nKp (fun hHeld => ?_)
      clear hK K
      generalize wa.alloc (.cells #[.slice none 0 0, .slice none 0 0] 55) = wp at nP bP nKp hHeld ⊢
      obtain ⟨gp, hgp⟩ : ∃ g, wa.heap.size = g := ⟨_, rfl⟩
      have hgpl : w.heap.size ≤ gp := by rw [← hgp]; exact bwa.size
      rw [hgp] at nP
      try rw [hgp]
      clear hgp
      have bwp := bwa.trans (bP.mono bwa.size)
      have howp := ownG_kept how (fun q _ hq => bP.block q hq)
      have honp := ownG_kept hon (fun q _ hq => bP.block q hq)
      have p0 := Lib.cell_of_heap nP 0
      have p1 := Lib.cell_of_heap nP 1
      have ff : ∀ f, wp.frozen? ⟨gp, f, none⟩ = false := fun f => by rw [World.frozen?, nP]; rfl
      have nP2 := set2_heap nP (.slice aw ws.length cw) (.slice an ns.length cn)
      have bwz := set2_below bwp hgpl (.slice aw ws.length cw) (.slice an ns.length cn)
      have nKz : (set2 wp gp (.slice aw ws.length cw) (.slice an ns.length cn)).heap[gk]? = some _ := (by unfold set2; rw [Below.heap_setCell _ _ _ _ (by exact ne_of_type nKp nP (by decide)), Below.heap_setCell _ _ _ _ (by exact ne_of_type nKp nP (by decide))]; exact nKp)
      have howz := own_set2 (ownG_mono howp bwq.size) nP (by decide) (.slice aw ws.length cw) (.slice an ns.length cn)
      have honz := own_set2 (ownG_mono honp bwq.size) nP (by decide) (.slice aw ws.length cw) (.slice an ns.length cn)
      refine rdH 8 (fun K hK => ?_)
      go_simp
      refine hK.out _ _ nKz (fun hHeld => ?_)
      clear hK K p0 p1 ff
      refine tkI 9 ?_
      simp only [Act.put, zq]
      refine wpAnyH_done (by kernel_rfl) ?_ _
      unfold set2 at nP2 bwz nKz howz honz
      generalize (wp.setCell ⟨gp, 0, none⟩ (.slice aw ws.length cw)).setCell ⟨gp, 1, none⟩ (.slice an ns.length cn) = wz at nP2 bwz nKz howz honz hHeld ⊢
      have k1 := Lib.cell_of_heap nKz 1
      have p0 := Lib.cell_of_heap nP2 0
      have p1 := Lib.cell_of_heap nP2 1
      have HZ2 := HZ'.out wz aw cw an cn hal bwz howz honz
      have HZ3 := fun (_ : Unit) => HZ2
      clear HZ2 HZ' hon how hba
      go_wp2_with (first | (go_at_call 24; refine (HZ3 ()).mono ?_; rintro e wy ⟨rfl, hzz⟩))
      exact hRy.out _ _ hal rfl hzz
    · unfold noParts
      have nKa := (hba.block gk (Array.getElem?_eq_some_iff.1 nKq).1).trans nKq
      have bwa := bwq.trans (hba.mono bwq.size)
      refine hK.out _ _ nKa (fun hHeld => ?_)
      clear hK K
      refine tkI 4 ?_
      simp only [Act.put, zq]
      refine tkI 5 ?_
      simp only [Act.put, zq]
      refine tkI 6 ?_
      simp only [Act.put, zq]
      refine rdH 7 (fun K hK => ?_)
      have nP := heap_alloc_new wa (.cells #[.slice none 0 0, .slice none 0 0] 55)
      have bP : Below wa.heap.size wa (wa.alloc (.cells #[.slice none 0 0, .slice none 0 0] 55)) := (Below.refl _ _).alloc (Nat.le_refl _) _
      have nKp := (bP.block gk (Array.getElem?_eq_some_iff.1 nKa).1).trans nKa
      go_simp
      refine hK.out _ _ nKp (fun hHeld => ?_)
      clear hK K
      generalize wa.alloc (.cells #[.slice none 0 0, .slice none 0 0] 55) = wp at nP bP nKp hHeld ⊢
      obtain ⟨gp, hgp⟩ : ∃ g, wa.heap.size = g := ⟨_, rfl⟩
      have hgpl : w.heap.size ≤ gp := by rw [← hgp]; exact bwa.size
      rw [hgp] at nP
      try rw [hgp]
      clear hgp
      have bwp := bwa.trans (bP.mono bwa.size)
      have p0 := Lib.cell_of_heap nP 0
      have p1 := Lib.cell_of_heap nP 1
      have ff : ∀ f, wp.frozen? ⟨gp, f, none⟩ = false := fun f => by rw [World.frozen?, nP]; rfl
      have nP2 := set2_heap nP (.slice none 0 0) (.slice none 0 0)
      have bwz := set2_below bwp hgpl (.slice none 0 0) (.slice none 0 0)
      have nKz : (set2 wp gp (.slice none 0 0) (.slice none 0 0)).heap[gk]? = some _ := (by unfold set2; rw [Below.heap_setCell _ _ _ _ (by exact ne_of_type nKp nP (by decide)), Below.heap_setCell _ _ _ _ (by exact ne_of_type nKp nP (by decide))]; exact nKp)
      refine rdH 8 (fun K hK => ?_)
      go_simp
      refine hK.out _ _ nKz (fun hHeld => ?_)
      clear hK K p0 p1 ff
      refine tkI 9 ?_
      simp only [Act.put, zq]
      refine wpAnyH_done (by kernel_rfl) ?_ _
      unfold set2 at nP2 bwz nKz
      generalize (wp.setCell ⟨gp, 0, none⟩ (.slice none 0 0)).setCell ⟨gp, 1, none⟩ (.slice none 0 0) = wz at nP2 bwz nKz hHeld ⊢
      go_wp2_with fail
      exact hRn.out _ _ hal rfl bwz
  · have nPb := heap_alloc_new wq (.cells #[.slice none 0 0, .slice none 0 0] 55)
    have bPb : Below wq.heap.size wq (wq.alloc (.cells #[.slice none 0 0, .slice none 0 0] 55)) := (Below.refl _ _).alloc (Nat.le_refl _) _
    have nKb := (bPb.block gk (Array.getElem?_eq_some_iff.1 nKq).1).trans nKq
    go_simp
    refine hK.out _ _ nKb (fun hHeld => ?_)
    clear hK K
    generalize wq.alloc (.cells #[.slice none 0 0, .slice none 0 0] 55) = wb at nPb bPb nKb hHeld ⊢
    obtain ⟨gp, hgp⟩ : ∃ g, wq.heap.size = g := ⟨_, rfl⟩
    have hgpl : w.heap.size ≤ gp := by rw [← hgp]; exact bwq.size
    rw [hgp] at nPb
    try rw [hgp]
    clear hgp
    have bwb := bwq.trans (bPb.mono bwq.size)
    have hEb := hEq.below bPb
    have hTb := hTq.below bPb
    refine rdH 3 (fun K hK => ?_)
    go_simp
    refine (HRD.out _ _ _ hEb hTb).mono ?_
    rintro e wa hrp
    rcases hrp with ⟨hal, aw, cw, an, cn, rfl, how, hon, hba⟩ | ⟨hal, rfl, hba⟩
    · rw [hws'.out.1] at how
      rw [hws'.out.2] at hon
      rw [hws'.out.1, hws'.out.2]
      have nKa := (hba.block gk (Array.getElem?_eq_some_iff.1 nKb).1).trans nKb
      have bwa := bwb.trans (hba.mono bwb.size)
      refine hK.out _ _ nKa (fun hHeld => ?_)
      clear hK K
      refine tkI 4 ?_
      simp only [Act.put, zq]
      refine tkI 5 ?_
      simp only [Act.put, zq]
      refine tkI 6 ?_
      simp only [Act.put, zq]
      have nP := (hba.block gp (Array.getElem?_eq_some_iff.1 nPb).1).trans nPb
      have nKp := nKa
      have bwp := bwa
      have howp := how
      have honp := hon
      have p0 := Lib.cell_of_heap nP 0
      have p1 := Lib.cell_of_heap nP 1
      have ff : ∀ f, wa.frozen? ⟨gp, f, none⟩ = false := fun f => by rw [World.frozen?, nP]; rfl
      have nP2 := set2_heap nP (.slice aw ws.length cw) (.slice an ns.length cn)
      have bwz := set2_below bwp hgpl (.slice aw ws.length cw) (.slice an ns.length cn)
      have nKz : (set2 wa gp (.slice aw ws.length cw) (.slice an ns.length cn)).heap[gk]? = some _ := (by unfold set2; rw [Below.heap_setCell _ _ _ _ (by exact ne_of_type nKp nP (by decide)), Below.heap_setCell _ _ _ _ (by exact ne_of_type nKp nP (by decide))]; exact nKp)
      have howz := own_set2 (ownG_mono howp bwb.size) nP (by decide) (.slice aw ws.length cw) (.slice an ns.length cn)
      have honz := own_set2 (ownG_mono honp bwb.size) nP (by decide) (.slice aw ws.length cw) (.slice an ns.length cn)
      refine rdH 8 (fun K hK => ?_)
      go_simp
      refine hK.out _ _ nKz (fun hHeld => ?_)
      clear hK K p0 p1 ff
      refine tkI 9 ?_
      simp only [Act.put, zq]
      refine wpAnyH_done (by kernel_rfl) ?_ _
      unfold set2 at nP2 bwz nKz howz honz
      generalize (wa.setCell ⟨gp, 0, none⟩ (.slice aw ws.length cw)).setCell ⟨gp, 1, none⟩ (.slice an ns.length cn) = wz at nP2 bwz nKz howz honz hHeld ⊢
      have k1 := Lib.cell_of_heap nKz 1
      have p0 := Lib.cell_of_heap nP2 0
      have p1 := Lib.cell_of_heap nP2 1
      have HZ2 := HZ'.out wz aw cw an cn hal bwz howz honz
      have HZ3 := fun (_ : Unit) => HZ2
      clear HZ2 HZ' hon how hba
      go_wp2_with (first | (go_at_call 24; refine (HZ3 ()).mono ?_; rintro e wy ⟨rfl, hzz⟩))
      exact hRy.out _ _ hal rfl hzz
    · unfold noParts
      have nKa := (hba.block gk (Array.getElem?_eq_some_iff.1 nKb).1).trans nKb
      have bwa := bwb.trans (hba.mono bwb.size)
      refine hK.out _ _ nKa (fun hHeld => ?_)
      clear hK K
      refine tkI 4 ?_
      simp only [Act.put, zq]
      refine tkI 5 ?_
      simp only [Act.put, zq]
      refine tkI 6 ?_
      simp only [Act.put, zq]
      have nP := (hba.block gp (Array.getElem?_eq_some_iff.1 nPb).1).trans nPb
      have nKp := nKa
      have bwp := bwa
      have p0 := Lib.cell_of_heap nP 0
      have p1 := Lib.cell_of_heap nP 1
      have ff : ∀ f, wa.frozen? ⟨gp, f, none⟩ = false := fun f => by rw [World.frozen?, nP]; rfl
      have nP2 := set2_heap nP (.slice none 0 0) (.slice none 0 0)
      have bwz := set2_below bwp hgpl (.slice none 0 0) (.slice none 0 0)
      have nKz : (set2 wa gp (.slice none 0 0) (.slice none 0 0)).heap[gk]? = some _ := (by unfold set2; rw [Below.heap_setCell _ _ _ _ (by exact ne_of_type nKp nP (by decide)), Below.heap_setCell _ _ _ _ (by exact ne_of_type nKp nP (by decide))]; exact nKp)
      refine rdH 8 (fun K hK => ?_)
      go_simp
      refine hK.out _ _ nKz (fun hHeld => ?_)
      clear hK K p0 p1 ff
      refine tkI 9 ?_
      simp only [Act.put, zq]
      refine wpAnyH_done (by kernel_rfl) ?_ _
      unfold set2 at nP2 bwz nKz
      generalize (wa.setCell ⟨gp, 0, none⟩ (.slice none 0 0)).setCell ⟨gp, 1, none⟩ (.slice none 0 0) = wz at nP2 bwz nKz hHeld ⊢
      go_wp2_with fail
      exact hRn.out _ _ hal rfl bwz

set_option maxRecDepth 100000 in
set_option maxHeartbeats 2000000 in
theorem enter_cap (gs r : Nat) (ks : List ByteArray) (vs : List Value) (i : Nat) (sh : ByteArray) (l : ByteArray) (w : World) (Z : World → Prop) (hE : Env w) (hM : MapS r ks vs w) (hl : l.size ≤ 1048576) (hs : sh.size ≤ 10) (hf : findS ((cutB 32 l).getD 0 ⟨#[]⟩) ks vs 0 = some (i, .agg #[.string sh, (.func (.func 25) #[] #[] : Value)]))
    (ts : List ByteArray) (hts : (cutB 32 l).tail = ts) (SH : List UInt8) (hSH : shI sh ts.length = SH) (ws : List ByteArray) (hws : wordsT SH ts = ws) (ns : List Int) (hns : numsT SH ts = ns)
    (HZ : ∀ W aw cw an cn, allT SH ts = true → Below w.heap.size w W → W.ownsRow w.heap.size 9 1 (.slice aw ws.length cw) ws.length (ws.map Value.string) → W.ownsRow w.heap.size 3 1 (.slice an ns.length cn) ns.length (ns.map I) → Calls Tryz.prog 25 #[.pointer (some ⟨gs, 0, none⟩), .agg #[.slice aw ws.length cw, .slice an ns.length cn]] W fun e w' => e = .returned (.tuple #[]) ∧ Z w') :
    Calls Tryz.prog 15 #[.pointer (some ⟨gs, 0, none⟩), .map (some r), .string l] w fun e w' => (allT SH ts = true ∧ e = .returned (.bool true) ∧ Z w') ∨ (allT SH ts = false ∧ e = .returned (.bool false) ∧ Below w.heap.size w w') := by
  obtain ⟨R, hR⟩ : ∃ R : Ending → World → Prop, (fun e w' => (allT SH ts = true ∧ e = .returned (.bool true) ∧ Z w') ∨ (allT SH ts = false ∧ e = .returned (.bool false) ∧ Below w.heap.size w w')) = R := ⟨_, rfl⟩
  have hRy : Hid (∀ e w', allT SH ts = true → e = .returned (.bool true) → Z w' → R e w') := fun e w' h1 h2 h3 => by rw [← hR]; exact .inl ⟨h1, h2, h3⟩
  have hRn : Hid (∀ e w', allT SH ts = false → e = .returned (.bool false) → Below w.heap.size w w' → R e w') := fun e w' h1 h2 h3 => by rw [← hR]; exact .inr ⟨h1, h2, h3⟩
  rw [hR]
  clear hR
  have HC : Hid (∀ W, Env W → Calls Tryz.prog 23 #[.string l, .string ⟨#[32]⟩] W fun e w' => ∃ a, e = .returned (.slice a (cutB 32 l).length (cutB 32 l).length) ∧ TArg a (cutB 32 l) w' ∧ Below W.heap.size W w') := fun W hW => isplit_any2 32 l W hW hl
  have hne := cutB_ne 32 l
  have hsz := cutB_size 32 l
  generalize cutB 32 l = P at HC hf hne hts hsz
  obtain ⟨n, hn⟩ : ∃ n, P.length = n + 1 := ⟨P.length - 1, by omega⟩
  have hPn : Hid (P.length = n + 1) := hn
  have htn : ts.length = n := by rw [← hts, List.length_tail, hn]; rfl
  have htz : ∀ x ∈ ts, x.size ≤ 1048576 := fun x hx => by rw [← hts] at hx; exact Nat.le_trans (hsz.2 x (List.mem_of_mem_tail hx)) hl
  have hn2 : n ≤ 1048576 := by have := hsz.1; omega
  rw [hn] at HC
  have hfo : (.func (.func 25) #[] #[] : Value).oneCell' = true := rfl
  have HRD : Hid (∀ W a c, Env W → TArg a ts W → Calls Tryz.prog 27 #[.agg #[.string sh, (.func (.func 25) #[] #[] : Value)], .slice a n c] W (ReadPost SH ts W)) := fun W a c hE hT => by
    have := read_any sh ((.func (.func 25) #[] #[] : Value)) a ts c W hE hT hs (by omega) htz hfo
    rw [hSH, htn] at this
    exact this
  have HZ' : Hid (∀ W aw cw an cn, allT SH ts = true → Below w.heap.size w W → W.ownsRow w.heap.size 9 1 (.slice aw ws.length cw) ws.length (ws.map Value.string) → W.ownsRow w.heap.size 3 1 (.slice an ns.length cn) ns.length (ns.map I) → Calls Tryz.prog 25 #[.pointer (some ⟨gs, 0, none⟩), .agg #[.slice aw ws.length cw, .slice an ns.length cn]] W fun e w' => e = .returned (.tuple #[]) ∧ Z w') := HZ
  have hts' : Hid (P.tail = ts) := hts
  have hws' : Hid (wordsT SH ts = ws ∧ numsT SH ts = ns) := ⟨hws, hns⟩
  replace htn : Hid (ts.length = n) := htn
  clear hn hne hts hsz hSH htz hws hns HZ hs hl hfo
  have hsf : ∀ (W : World) (a : Addr) (f : Fn) (x y : Array Value) (m : Mode), (store a (.func f x y) m).run Tryz.prog W = stored Tryz.prog W a (.func f x y) m := fun W a f x y m => run_store Tryz.prog W a _ m rfl
  have z1 : (0 : Int) < (n : Int) + 1 := by omega
  have z2 : (1 : Int) ≤ (n : Int) + 1 := by omega
  go_enter Tryz.func15, Tryz.ntmps15
  go_upto_region 2 with (first | (go_at_call 23; refine (HC.out _ hE).mono ?_; rintro e w1 ⟨a, rfl, hT, hb1⟩))
  obtain ⟨b, off, rfl, hlt, hc⟩ := hT.at_ (by rw [hPn.out]; omega)
  have c1 := hc 0 (by rw [hPn.out]; omega)
  rw [Nat.add_zero] at c1
  have hlk := run_lookS (hM.below hb1) (P.getD 0 ⟨#[]⟩) _ (zero58 w1)
  rw [hf] at hlk
  generalize P.getD 0 ⟨#[]⟩ = x at c1 hlk hf
  simp only [Option.map_some, Option.getD_some, Option.isSome_some] at hlk
  have hTt := hT.tail
  rw [hts'.out] at hTt
  clear hc HC hf hT
  have nK := heap_alloc_new w1 (.cells #[.string sh, (.func (.func 25) #[] #[] : Value)] 58)
  have bK : Below w1.heap.size w1 (w1.alloc (.cells #[.string sh, (.func (.func 25) #[] #[] : Value)] 58)) := (Below.refl _ _).alloc (Nat.le_refl _) _
  go_upto_region 5 with fail
  generalize w1.alloc (.cells #[.string sh, (.func (.func 25) #[] #[] : Value)] 58) = w2 at nK bK ⊢
  obtain ⟨gk, hgk⟩ : ∃ g, w1.heap.size = g := ⟨_, rfl⟩
  rw [hgk] at nK
  try rw [hgk]
  have hgkl : Hid (w.heap.size ≤ gk) := by rw [← hgk]; exact hb1.size
  clear hgk
  have bw2 := hb1.trans (bK.mono hb1.size)
  have hT2 := hTt.below bK
  have hE2 := hE.below bw2
  clear bK hb1 hTt hlk c1 hlt
  have hdw : Below w2.heap.size w2 w2.drew := (Below.refl _ _).drew
  have bwq := bw2.trans (hdw.mono bw2.size)
  have hTq := hT2.below hdw
  have hEq := hE2.below hdw
  have nKq : w2.drew.heap[gk]? = some (.cells #[.string sh, (.func (.func 25) #[] #[] : Value)] 58) := nK
  refine wp_region_held_drew (S := fun W => W.heap[gk]? = some (.cells #[.string sh, (.func (.func 25) #[] #[] : Value)] 58)) (by kernel_rfl) nKq (fun hHeld => ?_)
  generalize w2.drew = wq at bwq hTq hEq nKq hHeld ⊢
  clear hdw hT2 hE2 nK bw2
  refine tkH (i := 0) (by rfl) (Or.inl ⟨by rfl, fun W hSW => by have k0 := Lib.cell_of_heap hSW 0; have k1 := Lib.cell_of_heap hSW 1; go_simp; rfl⟩) ?_
  simp only [Act.put, zq]
  refine tkI 1 ?_
  simp only [Act.put, zq]
  refine tkI 2 ?_
  simp only [Act.put, zq]
  obtain ⟨ap, hap⟩ : ∃ ap, (if n = 0 then some (⟨b, off, none⟩ : Addr) else some ⟨b, off + 1, none⟩) = ap := ⟨_, rfl⟩
  rw [hap]
  replace hTq : TArg ap ts wq := by
    rw [← hap]
    split
    · rename_i h0
      exact ⟨fun h => absurd h (by rw [htn.out, h0]; simp)⟩
    · exact hTq
  clear hap
  refine wpAnyH_ready (rs := [3, 7]) (by kernel_rfl) (by simp) ?_
  refine AllReadyH.cons rfl (fun K hK => ?_) (AllReadyH.cons rfl (fun K hK => ?_) AllReadyH.nil)
  · go_simp
    refine (HRD.out _ _ _ hEq hTq).mono ?_
    rintro e wa hrp
    rcases hrp with ⟨hal, aw, cw, an, cn, rfl, how, hon, hba⟩ | ⟨hal, rfl, hba⟩
    · rw [hws'.out.1] at how
      rw [hws'.out.2] at hon
      rw [hws'.out.1, hws'.out.2]
      have nKa := (hba.block gk (Array.getElem?_eq_some_iff.1 nKq).1).trans nKq
      have bwa := bwq.trans (hba.mono bwq.size)
      refine hK.out _ _ nKa (fun hHeld => ?_)
      clear hK K
      refine tkI 4 ?_
      simp only [Act.put, zq]
      refine tkI 5 ?_
      simp only [Act.put, zq]
      refine tkI 6 ?_
      simp only [Act.put, zq]
      refine rdH 7 (fun K hK => ?_)
      have nP := heap_alloc_new wa (.cells #[.slice none 0 0, .slice none 0 0] 55)
      have bP : Below wa.heap.size wa (wa.alloc (.cells #[.slice none 0 0, .slice none 0 0] 55)) := (Below.refl _ _).alloc (Nat.le_refl _) _
      have nKp := (bP.block gk (Array.getElem?_eq_some_iff.1 nKa).1).trans nKa
      go_simp
      refine hK.out _ _ nKp (fun hHeld => ?_)
      clear hK K
      generalize wa.alloc (.cells #[.slice none 0 0, .slice none 0 0] 55) = wp at nP bP nKp hHeld ⊢
      obtain ⟨gp, hgp⟩ : ∃ g, wa.heap.size = g := ⟨_, rfl⟩
      have hgpl : w.heap.size ≤ gp := by rw [← hgp]; exact bwa.size
      rw [hgp] at nP
      try rw [hgp]
      clear hgp
      have bwp := bwa.trans (bP.mono bwa.size)
      have howp := ownG_kept how (fun q _ hq => bP.block q hq)
      have honp := ownG_kept hon (fun q _ hq => bP.block q hq)
      have p0 := Lib.cell_of_heap nP 0
      have p1 := Lib.cell_of_heap nP 1
      have ff : ∀ f, wp.frozen? ⟨gp, f, none⟩ = false := fun f => by rw [World.frozen?, nP]; rfl
      have nP2 := set2_heap nP (.slice aw ws.length cw) (.slice an ns.length cn)
      have bwz := set2_below bwp hgpl (.slice aw ws.length cw) (.slice an ns.length cn)
      have nKz : (set2 wp gp (.slice aw ws.length cw) (.slice an ns.length cn)).heap[gk]? = some _ := (by unfold set2; rw [Below.heap_setCell _ _ _ _ (by exact ne_of_type nKp nP (by decide)), Below.heap_setCell _ _ _ _ (by exact ne_of_type nKp nP (by decide))]; exact nKp)
      have howz := own_set2 (ownG_mono howp bwq.size) nP (by decide) (.slice aw ws.length cw) (.slice an ns.length cn)
      have honz := own_set2 (ownG_mono honp bwq.size) nP (by decide) (.slice aw ws.length cw) (.slice an ns.length cn)
      refine rdH 8 (fun K hK => ?_)
      go_simp
      refine hK.out _ _ nKz (fun hHeld => ?_)
      clear hK K p0 p1 ff
      refine tkI 9 ?_
      simp only [Act.put, zq]
      refine wpAnyH_done (by kernel_rfl) ?_ _
      unfold set2 at nP2 bwz nKz howz honz
      generalize (wp.setCell ⟨gp, 0, none⟩ (.slice aw ws.length cw)).setCell ⟨gp, 1, none⟩ (.slice an ns.length cn) = wz at nP2 bwz nKz howz honz hHeld ⊢
      have k1 := Lib.cell_of_heap nKz 1
      have p0 := Lib.cell_of_heap nP2 0
      have p1 := Lib.cell_of_heap nP2 1
      have HZ2 := HZ'.out wz aw cw an cn hal bwz howz honz
      have HZ3 := fun (_ : Unit) => HZ2
      clear HZ2 HZ' hon how hba
      go_wp2_with (first | (go_at_call 25; refine (HZ3 ()).mono ?_; rintro e wy ⟨rfl, hzz⟩))
      exact hRy.out _ _ hal rfl hzz
    · unfold noParts
      have nKa := (hba.block gk (Array.getElem?_eq_some_iff.1 nKq).1).trans nKq
      have bwa := bwq.trans (hba.mono bwq.size)
      refine hK.out _ _ nKa (fun hHeld => ?_)
      clear hK K
      refine tkI 4 ?_
      simp only [Act.put, zq]
      refine tkI 5 ?_
      simp only [Act.put, zq]
      refine tkI 6 ?_
      simp only [Act.put, zq]
      refine rdH 7 (fun K hK => ?_)
      have nP := heap_alloc_new wa (.cells #[.slice none 0 0, .slice none 0 0] 55)
      have bP : Below wa.heap.size wa (wa.alloc (.cells #[.slice none 0 0, .slice none 0 0] 55)) := (Below.refl _ _).alloc (Nat.le_refl _) _
      have nKp := (bP.block gk (Array.getElem?_eq_some_iff.1 nKa).1).trans nKa
      go_simp
      refine hK.out _ _ nKp (fun hHeld => ?_)
      clear hK K
      generalize wa.alloc (.cells #[.slice none 0 0, .slice none 0 0] 55) = wp at nP bP nKp hHeld ⊢
      obtain ⟨gp, hgp⟩ : ∃ g, wa.heap.size = g := ⟨_, rfl⟩
      have hgpl : w.heap.size ≤ gp := by rw [← hgp]; exact bwa.size
      rw [hgp] at nP
      try rw [hgp]
      clear hgp
      have bwp := bwa.trans (bP.mono bwa.size)
      have p0 := Lib.cell_of_heap nP 0
      have p1 := Lib.cell_of_heap nP 1
      have ff : ∀ f, wp.frozen? ⟨gp, f, none⟩ = false := fun f => by rw [World.frozen?, nP]; rfl
      have nP2 := set2_heap nP (.slice none 0 0) (.slice none 0 0)
      have bwz := set2_below bwp hgpl (.slice none 0 0) (.slice none 0 0)
      have nKz : (set2 wp gp (.slice none 0 0) (.slice none 0 0)).heap[gk]? = some _ := (by unfold set2; rw [Below.heap_setCell _ _ _ _ (by exact ne_of_type nKp nP (by decide)), Below.heap_setCell _ _ _ _ (by exact ne_of_type nKp nP (by decide))]; exact nKp)
      refine rdH 8 (fun K hK => ?_)
      go_simp
      refine hK.out _ _ nKz (fun hHeld => ?_)
      clear hK K p0 p1 ff
      refine tkI 9 ?_
      simp only [Act.put, zq]
      refine wpAnyH_done (by kernel_rfl) ?_ _
      unfold set2 at nP2 bwz nKz
      generalize (wp.setCell ⟨gp, 0, none⟩ (.slice none 0 0)).setCell ⟨gp, 1, none⟩ (.slice none 0 0) = wz at nP2 bwz nKz hHeld ⊢
      go_wp2_with fail
      exact hRn.out _ _ hal rfl bwz
  · have nPb := heap_alloc_new wq (.cells #[.slice none 0 0, .slice none 0 0] 55)
    have bPb : Below wq.heap.size wq (wq.alloc (.cells #[.slice none 0 0, .slice none 0 0] 55)) := (Below.refl _ _).alloc (Nat.le_refl _) _
    have nKb := (bPb.block gk (Array.getElem?_eq_some_iff.1 nKq).1).trans nKq
    go_simp
    refine hK.out _ _ nKb (fun hHeld => ?_)
    clear hK K
    generalize wq.alloc (.cells #[.slice none 0 0, .slice none 0 0] 55) = wb at nPb bPb nKb hHeld ⊢
    obtain ⟨gp, hgp⟩ : ∃ g, wq.heap.size = g := ⟨_, rfl⟩
    have hgpl : w.heap.size ≤ gp := by rw [← hgp]; exact bwq.size
    rw [hgp] at nPb
    try rw [hgp]
    clear hgp
    have bwb := bwq.trans (bPb.mono bwq.size)
    have hEb := hEq.below bPb
    have hTb := hTq.below bPb
    refine rdH 3 (fun K hK => ?_)
    go_simp
    refine (HRD.out _ _ _ hEb hTb).mono ?_
    rintro e wa hrp
    rcases hrp with ⟨hal, aw, cw, an, cn, rfl, how, hon, hba⟩ | ⟨hal, rfl, hba⟩
    · rw [hws'.out.1] at how
      rw [hws'.out.2] at hon
      rw [hws'.out.1, hws'.out.2]
      have nKa := (hba.block gk (Array.getElem?_eq_some_iff.1 nKb).1).trans nKb
      have bwa := bwb.trans (hba.mono bwb.size)
      refine hK.out _ _ nKa (fun hHeld => ?_)
      clear hK K
      refine tkI 4 ?_
      simp only [Act.put, zq]
      refine tkI 5 ?_
      simp only [Act.put, zq]
      refine tkI 6 ?_
      simp only [Act.put, zq]
      have nP := (hba.block gp (Array.getElem?_eq_some_iff.1 nPb).1).trans nPb
      have nKp := nKa
      have bwp := bwa
      have howp := how
      have honp := hon
      have p0 := Lib.cell_of_heap nP 0
      have p1 := Lib.cell_of_heap nP 1
      have ff : ∀ f, wa.frozen? ⟨gp, f, none⟩ = false := fun f => by rw [World.frozen?, nP]; rfl
      have nP2 := set2_heap nP (.slice aw ws.length cw) (.slice an ns.length cn)
      have bwz := set2_below bwp hgpl (.slice aw ws.length cw) (.slice an ns.length cn)
      have nKz : (set2 wa gp (.slice aw ws.length cw) (.slice an ns.length cn)).heap[gk]? = some _ := (by unfold set2; rw [Below.heap_setCell _ _ _ _ (by exact ne_of_type nKp nP (by decide)), Below.heap_setCell _ _ _ _ (by exact ne_of_type nKp nP (by decide))]; exact nKp)
      have howz := own_set2 (ownG_mono howp bwb.size) nP (by decide) (.slice aw ws.length cw) (.slice an ns.length cn)
      have honz := own_set2 (ownG_mono honp bwb.size) nP (by decide) (.slice aw ws.length cw) (.slice an ns.length cn)
      refine rdH 8 (fun K hK => ?_)
      go_simp
      refine hK.out _ _ nKz (fun hHeld => ?_)
      clear hK K p0 p1 ff
      refine tkI 9 ?_
      simp only [Act.put, zq]
      refine wpAnyH_done (by kernel_rfl) ?_ _
      unfold set2 at nP2 bwz nKz howz honz
      generalize (wa.setCell ⟨gp, 0, none⟩ (.slice aw ws.length cw)).setCell ⟨gp, 1, none⟩ (.slice an ns.length cn) = wz at nP2 bwz nKz howz honz hHeld ⊢
      have k1 := Lib.cell_of_heap nKz 1
      have p0 := Lib.cell_of_heap nP2 0
      have p1 := Lib.cell_of_heap nP2 1
      have HZ2 := HZ'.out wz aw cw an cn hal bwz howz honz
      have HZ3 := fun (_ : Unit) => HZ2
      clear HZ2 HZ' hon how hba
      go_wp2_with (first | (go_at_call 25; refine (HZ3 ()).mono ?_; rintro e wy ⟨rfl, hzz⟩))
      exact hRy.out _ _ hal rfl hzz
    · unfold noParts
      have nKa := (hba.block gk (Array.getElem?_eq_some_iff.1 nKb).1).trans nKb
      have bwa := bwb.trans (hba.mono bwb.size)
      refine hK.out _ _ nKa (fun hHeld => ?_)
      clear hK K
      refine tkI 4 ?_
      simp only [Act.put, zq]
      refine tkI 5 ?_
      simp only [Act.put, zq]
      refine tkI 6 ?_
      simp only [Act.put, zq]
      have nP := (hba.block gp (Array.getElem?_eq_some_iff.1 nPb).1).trans nPb
      have nKp := nKa
      have bwp := bwa
      have p0 := Lib.cell_of_heap nP 0
      have p1 := Lib.cell_of_heap nP 1
      have ff : ∀ f, wa.frozen? ⟨gp, f, none⟩ = false := fun f => by rw [World.frozen?, nP]; rfl
      have nP2 := set2_heap nP (.slice none 0 0) (.slice none 0 0)
      have bwz := set2_below bwp hgpl (.slice none 0 0) (.slice none 0 0)
      have nKz : (set2 wa gp (.slice none 0 0) (.slice none 0 0)).heap[gk]? = some _ := (by unfold set2; rw [Below.heap_setCell _ _ _ _ (by exact ne_of_type nKp nP (by decide)), Below.heap_setCell _ _ _ _ (by exact ne_of_type nKp nP (by decide))]; exact nKp)
      refine rdH 8 (fun K hK => ?_)
      go_simp
      refine hK.out _ _ nKz (fun hHeld => ?_)
      clear hK K p0 p1 ff
      refine tkI 9 ?_
      simp only [Act.put, zq]
      refine wpAnyH_done (by kernel_rfl) ?_ _
      unfold set2 at nP2 bwz nKz
      generalize (wa.setCell ⟨gp, 0, none⟩ (.slice none 0 0)).setCell ⟨gp, 1, none⟩ (.slice none 0 0) = wz at nP2 bwz nKz hHeld ⊢
      go_wp2_with fail
      exact hRn.out _ _ hal rfl bwz
end Go.Proofs.YthklibioolnggaaGreatDoor
