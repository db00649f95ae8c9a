import Derived.Test.YthklibioolnggaaGreatDoorAp
namespace Go.Proofs.YthklibioolnggaaGreatDoor
open Go.RowKit Go.Proofs.Sha

def shI (s : ByteArray) (n : Nat) : List UInt8 := if s.data.toList = [110, 42] then List.replicate n 110 else s.data.toList
def noParts : Value := .agg #[.slice none 0 0, .slice none 0 0]
/-- What read gives. -/
def ReadPost (sh : List UInt8) (ts : List ByteArray) (w : World) (e : Ending) (w' : World) : Prop :=
  (allT sh ts = true ∧ ∃ aw cw an cn, e = .returned (.tuple #[.agg #[.slice aw (wordsT sh ts).length cw, .slice an (numsT sh ts).length cn], .bool true]) ∧ w'.ownsRow w.heap.size 9 1 (.slice aw (wordsT sh ts).length cw) (wordsT sh ts).length ((wordsT sh ts).map Value.string) ∧ w'.ownsRow w.heap.size 3 1 (.slice an (numsT sh ts).length cn) (numsT sh ts).length ((numsT sh ts).map I) ∧ Below w.heap.size w w')
  ∨ (allT sh ts = false ∧ e = .returned (.tuple #[noParts, .bool false]) ∧ Below w.heap.size w w')
def set2 (W : World) (g : Nat) (v0 v1 : Value) : World := (W.setCell ⟨g, 0, none⟩ v0).setCell ⟨g, 1, none⟩ v1
theorem set2_heap {W : World} {g : Nat} {u0 u1 : Value} (h : W.heap[g]? = some (.cells #[u0, u1] 55)) (v0 v1 : Value) : (set2 W g v0 v1).heap[g]? = some (.cells #[v0, v1] 55) :=
  heap_setCell_same _ g 1 _ 55 v1 (heap_setCell_same _ g 0 _ 55 v0 h)
theorem set2_below {w W : World} {g : Nat} (h : Below w.heap.size w W) (hg : w.heap.size ≤ g) (v0 v1 : Value) : Below w.heap.size w (set2 W g v0 v1) :=
  (h.setCell (p := ⟨g, 0, none⟩) hg _).setCell (p := ⟨g, 1, none⟩) hg _
theorem own_set2 {W : World} {base T z n g : Nat} {v : Value} {xs : List Value} {u0 u1 : Value} (h : W.ownsRow base T z v n xs) (hg : W.heap[g]? = some (.cells #[u0, u1] 55)) (hT : T ≠ 55) (v0 v1 : Value) : (set2 W g v0 v1).ownsRow base T z v n xs :=
  ownG_kept h (fun q hv _ => by
    obtain ⟨_, _, cur, h4⟩ := ownG_cells h hv
    have hne := ne_of_type h4 hg hT
    unfold set2
    rw [Below.heap_setCell _ _ _ _ (by exact hne), Below.heap_setCell _ _ _ _ (by exact hne)])
set_option maxRecDepth 100000 in
theorem retPt {fn : Func} {R : Ending → World → Prop} {A : Act} {g2 : Nat} {b : Bool} {x0 x1 : Value} {W : World} (hres : fn.results = #[.cell 4 55, .tmp 5]) (h2 : A.tmps.getD 4 undef = .pointer (some ⟨g2, 0, none⟩)) (h3 : A.tmps.getD 5 undef = .bool b) (hd : A.defers = [])
    (hn : W.heap[g2]? = some (.cells #[x0, x1] 55)) (h : R (.returned (.tuple #[.agg #[x0, x1], .bool b])) W) : bodyPost Tryz.prog fn R Exit.ret A W := by
  have c0 := Lib.cell_of_heap hn 0
  have c1 := Lib.cell_of_heap hn 1
  have h2' : A.tmps[4]?.getD undef = .pointer (some ⟨g2, 0, none⟩) := by simpa using h2
  have h3' : A.tmps[5]?.getD undef = .bool b := by simpa using h3
  refine bodyPost_ret (v := .tuple #[.agg #[x0, x1], .bool b]) ?_ hd h
  simp [results, hres, go_sem, asAddr, h2', h3', c0, c1]
theorem rep_one (n : Nat) : Lib.repeatL [110] n = List.replicate n 110 := by
  induction n with
  | zero => rfl
  | succ n ih => rw [Lib.repeatL, ih]; rfl

set_option maxRecDepth 100000 in
set_option maxHeartbeats 1000000 in
theorem read_any (s : ByteArray) (f : Value) (a : Option Addr) (ts : List ByteArray) (c : Nat) (w : World) (hE : Env w) (hT : TArg a ts w) (hs : s.size ≤ 10) (hn : ts.length ≤ 1048576) (hz : ∀ x ∈ ts, x.size ≤ 1048576) (_hf : f.oneCell' = true) :
    Calls Tryz.prog 27 #[.agg #[.string s, f], .slice a ts.length c] w (ReadPost (shI s ts.length) ts w) := by
  obtain ⟨R, hR⟩ : ∃ R, ReadPost (shI s ts.length) ts w = R := ⟨_, rfl⟩
  have hRo : Hid (ReadPost (shI s ts.length) ts w = R) := hR
  rw [hR]
  clear hR
  obtain ⟨n, hn'⟩ : ∃ n, ts.length = n := ⟨_, rfl⟩
  have hno : Hid (ts.length = n) := hn'
  rw [hn'] at hn hRo ⊢
  clear hn'
  go_enter Tryz.func27, Tryz.ntmps27
  go_upto_region 1 with fail
  have nK : ((w.alloc (.cells #[.string s, f] 58)).alloc (.cells #[.slice none 0 0, .slice none 0 0] 55)).heap[w.heap.size]? = some (.cells #[.string s, f] 58) := (Below.heap_alloc _ _ _ (by simp)).trans (heap_alloc_new w _)
  have n4 : ((w.alloc (.cells #[.string s, f] 58)).alloc (.cells #[.slice none 0 0, .slice none 0 0] 55)).heap[w.heap.size + 1]? = some (.cells #[.slice none 0 0, .slice none 0 0] 55) := by
    have := heap_alloc_new (w.alloc (.cells #[.string s, f] 58)) (.cells #[.slice none 0 0, .slice none 0 0] 55)
    rw [World.size_alloc] at this
    exact this
  have b2 : Below w.heap.size w ((w.alloc (.cells #[.string s, f] 58)).alloc (.cells #[.slice none 0 0, .slice none 0 0] 55)) := ((Below.refl _ _).alloc (Nat.le_refl _) _).alloc (by simp) _
  generalize (w.alloc (.cells #[.string s, f] 58)).alloc (.cells #[.slice none 0 0, .slice none 0 0] 55) = w2 at nK n4 b2 ⊢
  obtain ⟨gk, hgk⟩ : ∃ g, w.heap.size = g := ⟨_, rfl⟩
  have hg4l : w.heap.size ≤ gk + 1 := by omega
  rw [hgk] at nK n4
  try rw [hgk]
  clear hgk
  generalize gk + 1 = g4 at n4 hg4l ⊢
  have k0 := Lib.cell_of_heap nK 0
  have hE2 := hE.below b2
  have hT2 := hT.below b2
  by_cases hst : s.data.toList = [110, 42]
  · have e0 : (s.toList == [110, 42]) = true := by rw [tl_eq, hst]; rfl
    have HR : Hid (∀ W, Calls Tryz.prog 48 #[.string ⟨#[110]⟩, .int .i64 (n : Int)] W fun e w' => e = .returned (.string ⟨(Lib.repeatL [110] n).toArray⟩) ∧ Below W.heap.size W w') := fun W => Tryz.strings_Repeat ⟨#[110]⟩ n W (by omega) (by show 1 * n ≤ _; omega)
    obtain ⟨S, hS⟩ : ∃ S : ByteArray, (⟨(Lib.repeatL [110] n).toArray⟩ : ByteArray) = S := ⟨_, rfl⟩
    obtain ⟨sh, hsh⟩ : ∃ sh, shI s n = sh := ⟨_, rfl⟩
    have hsh2 : sh = List.replicate n 110 := by rw [← hsh, shI, if_pos hst]
    have hSl : S.data.toList = sh := by rw [← hS, hsh2, rep_one]
    have hshl : sh.length = n := by rw [hsh2, List.length_replicate]
    have hSn : S.size = n := by rw [← hshl, ← hSl]; rfl
    rw [hS] at HR
    rw [hsh] at hRo
    clear hS hsh hsh2 hst
    have e1 : ((S.size : Int) != (n : Int)) = false := by rw [hSn]; simp
    go_upto_region 4 with (first | (go_at_call 48; refine (HR.out _).mono ?_; rintro e w3 ⟨rfl, hb3⟩))
    have n43 := (hb3.block g4 (Array.getElem?_eq_some_iff.1 n4).1).trans n4
    have bw3 := b2.trans (hb3.mono b2.size)
    have hE3 := hE2.below hb3
    have hT3 := hT2.below hb3
    clear nK n4 b2 hE2 hT2 hb3 k0 HR
    obtain ⟨gp, hgp⟩ : ∃ g, w3.heap.size = g := ⟨_, rfl⟩
    have hgpl : w3.heap.size ≤ gp := Nat.le_of_eq hgp
    have nP := heap_alloc_new w3 (.cells #[.slice none 0 0, .slice none 0 0] 55)
    have bP : Below w3.heap.size w3 (w3.alloc (.cells #[.slice none 0 0, .slice none 0 0] 55)) := (Below.refl _ _).alloc (Nat.le_refl _) _
    rw [hgp] at nP
    go_upto_region 7 with fail
    generalize w3.alloc (.cells #[.slice none 0 0, .slice none 0 0] 55) = w4 at nP bP ⊢
    try rw [hgp]
    have hne4 : gp ≠ g4 := fun e => by have := (Array.getElem?_eq_some_iff.1 n43).1; omega
    clear hgp
    have hP0 : PtAt w3.heap.size gp [] [] none 0 none 0 w4 := ⟨nP, World.ownsRow_nil _ _ _ _, World.ownsRow_nil _ _ _ _⟩
    go_wp2_with fail
    go_loopw [25] (fun t25 wr => ∃ (i : Nat) (ws : List ByteArray) (ns : List Int) (aw : Option Addr) (cw : Nat) (an : Option Addr) (cn : Nat), i ≤ n ∧ ws.length ≤ i ∧ ns.length ≤ i ∧ t25 = .int .i64 (i : Int) ∧ Hid (allT sh ts = allT (sh.drop i) (ts.drop i)) ∧ Hid (wordsT sh ts = ws ++ wordsT (sh.drop i) (ts.drop i)) ∧ Hid (numsT sh ts = ns ++ numsT (sh.drop i) (ts.drop i)) ∧ PtAt w3.heap.size gp ws ns aw cw an cn wr ∧ Below w3.heap.size w3 wr) (fun t _ => n - (intOf t).toNat)
    case atStart => exact ⟨0, [], [], none, 0, none, 0, by omega, by simp, by simp, rfl, rfl, rfl, rfl, hP0, bP⟩
    case round =>
      obtain ⟨i, ws, ns, aw, cw, an, cn, hin, hwl, hnl, rfl, HA0, HW0, HI0, hP, hbw⟩ := hrel
      have hbs := hbw.size
      have hEr := hE3.below hbw
      by_cases hlt : i < n
      · have y1 : (0 : Int) ≤ (i : Int) := by omega
        have y2 : (i : Int) < (n : Int) := by omega
        obtain ⟨br, offr, rfl, hbr, hcr⟩ := (hT3.below hbw).at_ (by rw [hno.out]; omega)
        have cx := hcr i (by rw [hno.out]; exact hlt)
        have hx : (ts.getD i ⟨#[]⟩).size ≤ 1048576 := getD_size hz i
        have hch := bget S i (by rw [hSn]; exact hlt)
        rw [hSl] at hch
        have y3 : (i : Int) < (S.size : Int) := by omega
        have HAx := HA0.out.trans (all_drop (sh := sh) (ts := ts) (i := i) (by rw [hshl]; exact hlt) (by rw [hno.out]; exact hlt))
        have HWx := HW0.out
        rw [words_drop (sh := sh) (ts := ts) (i := i) (by rw [hshl]; exact hlt) (by rw [hno.out]; exact hlt)] at HWx
        have HIx := HI0.out
        rw [nums_drop (sh := sh) (ts := ts) (i := i) (by rw [hshl]; exact hlt) (by rw [hno.out]; exact hlt)] at HIx
        generalize ts.getD i ⟨#[]⟩ = x at cx hx HAx HWx HIx
        generalize sh.getD i 0 = sc at HAx HWx HIx hch
        have HA : Hid _ := HAx
        have HW : Hid _ := HWx
        have HI : Hid _ := HIx
        clear HAx HWx HIx HA0 HW0 HI0 hcr
        by_cases hsc : sc = 119
        · have hok : okT sc x = isW x := by rw [hsc, okT, if_pos rfl]
          have HAD : Hid (∀ W, PtAt w3.heap.size gp ws ns aw cw an cn W → w3.heap.size ≤ W.heap.size → Calls Tryz.prog 49 #[.pointer (some ⟨gp, 0, none⟩), .int .u8 (sc.toNat : Int), .string x] W (AddPost w3.heap.size gp (ws ++ [meanW x]) ns (isW x) W)) := fun W hW hs => by
            rw [hsc]; exact add_word w3.heap.size gp x hx ws ns aw cw an cn W hW hs hgpl (by omega)
          obtain ⟨xb, hxb⟩ : ∃ xb, isW x = xb := ⟨_, rfl⟩
          rw [hxb] at HAD
          have HSC : Hid (sc = 119) := hsc
          clear hsc
          cases xb with
          | false =>
            go_upto_region 11 with (first | (go_at_call 49; refine (HAD.out _ hP hbs).mono ?_; rintro e wq ⟨aw', cw', an', cn', rfl, hPq, hbq⟩))
            have bq := hbw.trans hbq
            have hal : allT sh ts = false := by rw [HA.out, hok, hxb]; simp
            have hRn : Hid (∀ e W, e = .returned (.tuple #[noParts, .bool false]) → Below w.heap.size w W → R e W) := fun e W h1 h2 => by rw [← hRo.out]; exact .inr ⟨hal, h1, h2⟩
            have n4q := (bq.block g4 (Array.getElem?_eq_some_iff.1 n43).1).trans n43
            have d0 := Lib.cell_of_heap n4q 0
            have d1 := Lib.cell_of_heap n4q 1
            have fz : ∀ j, wq.frozen? ⟨g4, j, none⟩ = false := fun j => by rw [World.frozen?, n4q]; rfl
            have bwq := bw3.trans (bq.mono bw3.size)
            clear HA HW HI HAD
            go_wp2_with fail
            refine retPt rfl rfl rfl rfl (set2_heap n4q _ _) ?_
            exact hRn.out _ _ rfl (set2_below bwq hg4l _ _)
          | true =>
            have HA' : Hid (allT sh ts = allT (sh.drop (i + 1)) (ts.drop (i + 1))) := by show _ = _; rw [HA.out, hok, hxb, Bool.true_and]
            have HW' : Hid (wordsT sh ts = (ws ++ [meanW x]) ++ wordsT (sh.drop (i + 1)) (ts.drop (i + 1))) := by show _ = _; rw [HW.out, if_pos HSC.out, List.append_assoc]; rfl
            have HI' : Hid (numsT sh ts = (ns) ++ numsT (sh.drop (i + 1)) (ts.drop (i + 1))) := by show _ = _; rw [HI.out, if_pos HSC.out]
            have hl2 : (ws ++ [meanW x]).length ≤ i + 1 ∧ (ns).length ≤ i + 1 := by simp only [List.length_append, List.length_cons, List.length_nil]; omega
            clear HA HW HI
            go_wp2_with (first | (go_at_call 49; refine (HAD.out _ hP hbs).mono ?_; rintro e wq ⟨aw', cw', an', cn', rfl, hPq, hbq⟩))
            have bq := hbw.trans hbq
            go_roundw
            case rel =>
              exact ⟨i + 1, ws ++ [meanW x], ns, aw', cw', an', cn', by omega, hl2.1, hl2.2, by go_num, HA', HW', HI', hPq, bq⟩
            case measure => simp [intOf]; omega
        · have HAD : Hid (∀ W, PtAt w3.heap.size gp ws ns aw cw an cn W → w3.heap.size ≤ W.heap.size → Env W → Calls Tryz.prog 49 #[.pointer (some ⟨gp, 0, none⟩), .int .u8 (sc.toNat : Int), .string x] W (AddPost w3.heap.size gp ws (ns ++ [(numI x.data.toList).1]) (okT sc x) W)) := fun W hW hs hE' => add_num w3.heap.size gp sc hsc x hx ws ns aw cw an cn W hE' hW hs hgpl (by omega)
          obtain ⟨xb, hxb⟩ : ∃ xb, okT sc x = xb := ⟨_, rfl⟩
          rw [hxb] at HAD
          cases xb with
          | false =>
            go_upto_region 11 with (first | (go_at_call 49; refine (HAD.out _ hP hbs hEr).mono ?_; rintro e wq ⟨aw', cw', an', cn', rfl, hPq, hbq⟩))
            have bq := hbw.trans hbq
            have hal : allT sh ts = false := by rw [HA.out, hxb]; simp
            have hRn : Hid (∀ e W, e = .returned (.tuple #[noParts, .bool false]) → Below w.heap.size w W → R e W) := fun e W h1 h2 => by rw [← hRo.out]; exact .inr ⟨hal, h1, h2⟩
            have n4q := (bq.block g4 (Array.getElem?_eq_some_iff.1 n43).1).trans n43
            have d0 := Lib.cell_of_heap n4q 0
            have d1 := Lib.cell_of_heap n4q 1
            have fz : ∀ j, wq.frozen? ⟨g4, j, none⟩ = false := fun j => by rw [World.frozen?, n4q]; rfl
            have bwq := bw3.trans (bq.mono bw3.size)
            clear HA HW HI HAD
            go_wp2_with fail
            refine retPt rfl rfl rfl rfl (set2_heap n4q _ _) ?_
            exact hRn.out _ _ rfl (set2_below bwq hg4l _ _)
          | true =>
            have HA' : Hid (allT sh ts = allT (sh.drop (i + 1)) (ts.drop (i + 1))) := by show _ = _; rw [HA.out, hxb, Bool.true_and]
            have HW' : Hid (wordsT sh ts = (ws) ++ wordsT (sh.drop (i + 1)) (ts.drop (i + 1))) := by show _ = _; rw [HW.out, if_neg hsc]
            have HI' : Hid (numsT sh ts = (ns ++ [(numI x.data.toList).1]) ++ numsT (sh.drop (i + 1)) (ts.drop (i + 1))) := by show _ = _; rw [HI.out, if_neg hsc, List.append_assoc]; rfl
            have hl2 : (ws).length ≤ i + 1 ∧ (ns ++ [(numI x.data.toList).1]).length ≤ i + 1 := by simp only [List.length_append, List.length_cons, List.length_nil]; omega
            clear HA HW HI
            go_wp2_with (first | (go_at_call 49; refine (HAD.out _ hP hbs hEr).mono ?_; rintro e wq ⟨aw', cw', an', cn', rfl, hPq, hbq⟩))
            have bq := hbw.trans hbq
            go_roundw
            case rel =>
              exact ⟨i + 1, ws, ns ++ [(numI x.data.toList).1], aw', cw', an', cn', by omega, hl2.1, hl2.2, by go_num, HA', HW', HI', hPq, bq⟩
            case measure => simp [intOf]; omega
      · have hin2 : i = n := by omega
        have hA1 : allT sh ts = true := by rw [HA0.out, List.drop_eq_nil_of_le (by rw [hshl]; omega), List.drop_eq_nil_of_le (by rw [hno.out]; omega)]; rfl
        have hW1 : wordsT sh ts = ws := by rw [HW0.out, List.drop_eq_nil_of_le (by rw [hshl]; omega)]; simp [wordsT]
        have hI1 : numsT sh ts = ns := by rw [HI0.out, List.drop_eq_nil_of_le (by rw [hshl]; omega)]; simp [numsT]
        have nB := hP.blk
        have n4q := (hbw.block g4 (Array.getElem?_eq_some_iff.1 n43).1).trans n43
        have d0 := Lib.cell_of_heap n4q 0
        have d1 := Lib.cell_of_heap n4q 1
        have fz : ∀ j, wr.frozen? ⟨g4, j, none⟩ = false := fun j => by rw [World.frozen?, n4q]; rfl
        have p0 := Lib.cell_of_heap nB 0
        have p1 := Lib.cell_of_heap nB 1
        have bwr := bw3.trans (hbw.mono bw3.size)
        have y2 : ¬ ((i : Int) < (n : Int)) := by omega
        have hRy : Hid (∀ e W, e = .returned (.tuple #[.agg #[.slice aw ws.length cw, .slice an ns.length cn], .bool true]) → W.ownsRow w.heap.size 9 1 (.slice aw ws.length cw) ws.length (ws.map Value.string) → W.ownsRow w.heap.size 3 1 (.slice an ns.length cn) ns.length (ns.map I) → Below w.heap.size w W → R e W) := fun e W h1 h2 h3 h4 => by
          rw [← hRo.out]; refine .inl ⟨hA1, aw, cw, an, cn, ?_, ?_, ?_, h4⟩
          · rw [hW1, hI1]; exact h1
          · rw [hW1]; exact h2
          · rw [hI1]; exact h3
        clear HA0 HW0 HI0 hA1 hW1 hI1 hRo
        go_wp2_with fail
        refine retPt rfl rfl rfl rfl (set2_heap n4q _ _) ?_
        exact hRy.out _ _ rfl (own_set2 (ownG_mono hP.ow bw3.size) n4q (by decide) _ _) (own_set2 (ownG_mono hP.on bw3.size) n4q (by decide) _ _) (set2_below bwr hg4l _ _)
  · have e0 : (s.toList == [110, 42]) = false := by rw [tl_eq, beq_eq_false_iff_ne]; exact hst
    obtain ⟨sh, hsh⟩ : ∃ sh, shI s n = sh := ⟨_, rfl⟩
    have hSl : s.data.toList = sh := by rw [← hsh, shI, if_neg hst]
    rw [hsh] at hRo
    have hss : s.size = sh.length := by rw [← hSl]; rfl
    clear hsh hst
    by_cases hln : sh.length = n
    · have hshl : sh.length = n := hln
      have hSn : s.size = n := by omega
      have e1 : ((s.size : Int) != (n : Int)) = false := by rw [hSn]; simp
      clear hln hss
      have n43 := n4
      have bw3 := b2
      have hE3 := hE2
      have hT3 := hT2
      go_upto_region 4 with fail
      clear nK n4 b2 hE2 hT2 k0
      obtain ⟨gp, hgp⟩ : ∃ g, w2.heap.size = g := ⟨_, rfl⟩
      have hgpl : w2.heap.size ≤ gp := Nat.le_of_eq hgp
      have nP := heap_alloc_new w2 (.cells #[.slice none 0 0, .slice none 0 0] 55)
      have bP : Below w2.heap.size w2 (w2.alloc (.cells #[.slice none 0 0, .slice none 0 0] 55)) := (Below.refl _ _).alloc (Nat.le_refl _) _
      rw [hgp] at nP
      go_upto_region 7 with fail
      generalize w2.alloc (.cells #[.slice none 0 0, .slice none 0 0] 55) = w4 at nP bP ⊢
      try rw [hgp]
      have hne4 : gp ≠ g4 := fun e => by have := (Array.getElem?_eq_some_iff.1 n43).1; omega
      clear hgp
      have hP0 : PtAt w2.heap.size gp [] [] none 0 none 0 w4 := ⟨nP, World.ownsRow_nil _ _ _ _, World.ownsRow_nil _ _ _ _⟩
      go_wp2_with fail
      go_loopw [25] (fun t25 wr => ∃ (i : Nat) (ws : List ByteArray) (ns : List Int) (aw : Option Addr) (cw : Nat) (an : Option Addr) (cn : Nat), i ≤ n ∧ ws.length ≤ i ∧ ns.length ≤ i ∧ t25 = .int .i64 (i : Int) ∧ Hid (allT sh ts = allT (sh.drop i) (ts.drop i)) ∧ Hid (wordsT sh ts = ws ++ wordsT (sh.drop i) (ts.drop i)) ∧ Hid (numsT sh ts = ns ++ numsT (sh.drop i) (ts.drop i)) ∧ PtAt w2.heap.size gp ws ns aw cw an cn wr ∧ Below w2.heap.size w2 wr) (fun t _ => n - (intOf t).toNat)
      case atStart => exact ⟨0, [], [], none, 0, none, 0, by omega, by simp, by simp, rfl, rfl, rfl, rfl, hP0, bP⟩
      case round =>
        obtain ⟨i, ws, ns, aw, cw, an, cn, hin, hwl, hnl, rfl, HA0, HW0, HI0, hP, hbw⟩ := hrel
        have hbs := hbw.size
        have hEr := hE3.below hbw
        by_cases hlt : i < n
        · have y1 : (0 : Int) ≤ (i : Int) := by omega
          have y2 : (i : Int) < (n : Int) := by omega
          obtain ⟨br, offr, rfl, hbr, hcr⟩ := (hT3.below hbw).at_ (by rw [hno.out]; omega)
          have cx := hcr i (by rw [hno.out]; exact hlt)
          have hx : (ts.getD i ⟨#[]⟩).size ≤ 1048576 := getD_size hz i
          have hch := bget s i (by rw [hSn]; exact hlt)
          rw [hSl] at hch
          have y3 : (i : Int) < (s.size : Int) := by omega
          have HAx := HA0.out.trans (all_drop (sh := sh) (ts := ts) (i := i) (by rw [hshl]; exact hlt) (by rw [hno.out]; exact hlt))
          have HWx := HW0.out
          rw [words_drop (sh := sh) (ts := ts) (i := i) (by rw [hshl]; exact hlt) (by rw [hno.out]; exact hlt)] at HWx
          have HIx := HI0.out
          rw [nums_drop (sh := sh) (ts := ts) (i := i) (by rw [hshl]; exact hlt) (by rw [hno.out]; exact hlt)] at HIx
          generalize ts.getD i ⟨#[]⟩ = x at cx hx HAx HWx HIx
          generalize sh.getD i 0 = sc at HAx HWx HIx hch
          have HA : Hid _ := HAx
          have HW : Hid _ := HWx
          have HI : Hid _ := HIx
          clear HAx HWx HIx HA0 HW0 HI0 hcr
          by_cases hsc : sc = 119
          · have hok : okT sc x = isW x := by rw [hsc, okT, if_pos rfl]
            have HAD : Hid (∀ W, PtAt w2.heap.size gp ws ns aw cw an cn W → w2.heap.size ≤ W.heap.size → Calls Tryz.prog 49 #[.pointer (some ⟨gp, 0, none⟩), .int .u8 (sc.toNat : Int), .string x] W (AddPost w2.heap.size gp (ws ++ [meanW x]) ns (isW x) W)) := fun W hW hs => by
              rw [hsc]; exact add_word w2.heap.size gp x hx ws ns aw cw an cn W hW hs hgpl (by omega)
            obtain ⟨xb, hxb⟩ : ∃ xb, isW x = xb := ⟨_, rfl⟩
            rw [hxb] at HAD
            have HSC : Hid (sc = 119) := hsc
            clear hsc
            cases xb with
            | false =>
              go_upto_region 11 with (first | (go_at_call 49; refine (HAD.out _ hP hbs).mono ?_; rintro e wq ⟨aw', cw', an', cn', rfl, hPq, hbq⟩))
              have bq := hbw.trans hbq
              have hal : allT sh ts = false := by rw [HA.out, hok, hxb]; simp
              have hRn : Hid (∀ e W, e = .returned (.tuple #[noParts, .bool false]) → Below w.heap.size w W → R e W) := fun e W h1 h2 => by rw [← hRo.out]; exact .inr ⟨hal, h1, h2⟩
              have n4q := (bq.block g4 (Array.getElem?_eq_some_iff.1 n43).1).trans n43
              have d0 := Lib.cell_of_heap n4q 0
              have d1 := Lib.cell_of_heap n4q 1
              have fz : ∀ j, wq.frozen? ⟨g4, j, none⟩ = false := fun j => by rw [World.frozen?, n4q]; rfl
              have bwq := bw3.trans (bq.mono bw3.size)
              clear HA HW HI HAD
              go_wp2_with fail
              refine retPt rfl rfl rfl rfl (set2_heap n4q _ _) ?_
              exact hRn.out _ _ rfl (set2_below bwq hg4l _ _)
            | true =>
              have HA' : Hid (allT sh ts = allT (sh.drop (i + 1)) (ts.drop (i + 1))) := by show _ = _; rw [HA.out, hok, hxb, Bool.true_and]
              have HW' : Hid (wordsT sh ts = (ws ++ [meanW x]) ++ wordsT (sh.drop (i + 1)) (ts.drop (i + 1))) := by show _ = _; rw [HW.out, if_pos HSC.out, List.append_assoc]; rfl
              have HI' : Hid (numsT sh ts = (ns) ++ numsT (sh.drop (i + 1)) (ts.drop (i + 1))) := by show _ = _; rw [HI.out, if_pos HSC.out]
              have hl2 : (ws ++ [meanW x]).length ≤ i + 1 ∧ (ns).length ≤ i + 1 := by simp only [List.length_append, List.length_cons, List.length_nil]; omega
              clear HA HW HI
              go_wp2_with (first | (go_at_call 49; refine (HAD.out _ hP hbs).mono ?_; rintro e wq ⟨aw', cw', an', cn', rfl, hPq, hbq⟩))
              have bq := hbw.trans hbq
              go_roundw
              case rel =>
                exact ⟨i + 1, ws ++ [meanW x], ns, aw', cw', an', cn', by omega, hl2.1, hl2.2, by go_num, HA', HW', HI', hPq, bq⟩
              case measure => simp [intOf]; omega
          · have HAD : Hid (∀ W, PtAt w2.heap.size gp ws ns aw cw an cn W → w2.heap.size ≤ W.heap.size → Env W → Calls Tryz.prog 49 #[.pointer (some ⟨gp, 0, none⟩), .int .u8 (sc.toNat : Int), .string x] W (AddPost w2.heap.size gp ws (ns ++ [(numI x.data.toList).1]) (okT sc x) W)) := fun W hW hs hE' => add_num w2.heap.size gp sc hsc x hx ws ns aw cw an cn W hE' hW hs hgpl (by omega)
            obtain ⟨xb, hxb⟩ : ∃ xb, okT sc x = xb := ⟨_, rfl⟩
            rw [hxb] at HAD
            cases xb with
            | false =>
              go_upto_region 11 with (first | (go_at_call 49; refine (HAD.out _ hP hbs hEr).mono ?_; rintro e wq ⟨aw', cw', an', cn', rfl, hPq, hbq⟩))
              have bq := hbw.trans hbq
              have hal : allT sh ts = false := by rw [HA.out, hxb]; simp
              have hRn : Hid (∀ e W, e = .returned (.tuple #[noParts, .bool false]) → Below w.heap.size w W → R e W) := fun e W h1 h2 => by rw [← hRo.out]; exact .inr ⟨hal, h1, h2⟩
              have n4q := (bq.block g4 (Array.getElem?_eq_some_iff.1 n43).1).trans n43
              have d0 := Lib.cell_of_heap n4q 0
              have d1 := Lib.cell_of_heap n4q 1
              have fz : ∀ j, wq.frozen? ⟨g4, j, none⟩ = false := fun j => by rw [World.frozen?, n4q]; rfl
              have bwq := bw3.trans (bq.mono bw3.size)
              clear HA HW HI HAD
              go_wp2_with fail
              refine retPt rfl rfl rfl rfl (set2_heap n4q _ _) ?_
              exact hRn.out _ _ rfl (set2_below bwq hg4l _ _)
            | true =>
              have HA' : Hid (allT sh ts = allT (sh.drop (i + 1)) (ts.drop (i + 1))) := by show _ = _; rw [HA.out, hxb, Bool.true_and]
              have HW' : Hid (wordsT sh ts = (ws) ++ wordsT (sh.drop (i + 1)) (ts.drop (i + 1))) := by show _ = _; rw [HW.out, if_neg hsc]
              have HI' : Hid (numsT sh ts = (ns ++ [(numI x.data.toList).1]) ++ numsT (sh.drop (i + 1)) (ts.drop (i + 1))) := by show _ = _; rw [HI.out, if_neg hsc, List.append_assoc]; rfl
              have hl2 : (ws).length ≤ i + 1 ∧ (ns ++ [(numI x.data.toList).1]).length ≤ i + 1 := by simp only [List.length_append, List.length_cons, List.length_nil]; omega
              clear HA HW HI
              go_wp2_with (first | (go_at_call 49; refine (HAD.out _ hP hbs hEr).mono ?_; rintro e wq ⟨aw', cw', an', cn', rfl, hPq, hbq⟩))
              have bq := hbw.trans hbq
              go_roundw
              case rel =>
                exact ⟨i + 1, ws, ns ++ [(numI x.data.toList).1], aw', cw', an', cn', by omega, hl2.1, hl2.2, by go_num, HA', HW', HI', hPq, bq⟩
              case measure => simp [intOf]; omega
        · have hin2 : i = n := by omega
          have hA1 : allT sh ts = true := by rw [HA0.out, List.drop_eq_nil_of_le (by rw [hshl]; omega), List.drop_eq_nil_of_le (by rw [hno.out]; omega)]; rfl
          have hW1 : wordsT sh ts = ws := by rw [HW0.out, List.drop_eq_nil_of_le (by rw [hshl]; omega)]; simp [wordsT]
          have hI1 : numsT sh ts = ns := by rw [HI0.out, List.drop_eq_nil_of_le (by rw [hshl]; omega)]; simp [numsT]
          have nB := hP.blk
          have n4q := (hbw.block g4 (Array.getElem?_eq_some_iff.1 n43).1).trans n43
          have d0 := Lib.cell_of_heap n4q 0
          have d1 := Lib.cell_of_heap n4q 1
          have fz : ∀ j, wr.frozen? ⟨g4, j, none⟩ = false := fun j => by rw [World.frozen?, n4q]; rfl
          have p0 := Lib.cell_of_heap nB 0
          have p1 := Lib.cell_of_heap nB 1
          have bwr := bw3.trans (hbw.mono bw3.size)
          have y2 : ¬ ((i : Int) < (n : Int)) := by omega
          have hRy : Hid (∀ e W, e = .returned (.tuple #[.agg #[.slice aw ws.length cw, .slice an ns.length cn], .bool true]) → W.ownsRow w.heap.size 9 1 (.slice aw ws.length cw) ws.length (ws.map Value.string) → W.ownsRow w.heap.size 3 1 (.slice an ns.length cn) ns.length (ns.map I) → Below w.heap.size w W → R e W) := fun e W h1 h2 h3 h4 => by
            rw [← hRo.out]; refine .inl ⟨hA1, aw, cw, an, cn, ?_, ?_, ?_, h4⟩
            · rw [hW1, hI1]; exact h1
            · rw [hW1]; exact h2
            · rw [hI1]; exact h3
          clear HA0 HW0 HI0 hA1 hW1 hI1 hRo
          go_wp2_with fail
          refine retPt rfl rfl rfl rfl (set2_heap n4q _ _) ?_
          exact hRy.out _ _ rfl (own_set2 (ownG_mono hP.ow bw3.size) n4q (by decide) _ _) (own_set2 (ownG_mono hP.on bw3.size) n4q (by decide) _ _) (set2_below bwr hg4l _ _)
    · have e1 : ((s.size : Int) != (n : Int)) = true := by rw [bne_iff_ne]; omega
      have hal : allT sh ts = false := by
        rw [← Bool.not_eq_true]; intro h; have := all_len h; rw [hno.out] at this; exact hln this
      have hRn : Hid (∀ e W, e = .returned (.tuple #[noParts, .bool false]) → Below w.heap.size w W → R e W) := fun e W h1 h2 => by rw [← hRo.out]; exact .inr ⟨hal, h1, h2⟩
      have d0 := Lib.cell_of_heap n4 0
      have d1 := Lib.cell_of_heap n4 1
      have fz : ∀ j, w2.frozen? ⟨g4, j, none⟩ = false := fun j => by rw [World.frozen?, n4]; rfl
      clear hss hln hal
      go_wp2_with fail
      refine retPt rfl rfl rfl rfl (set2_heap n4 _ _) ?_
      exact hRn.out _ _ rfl (set2_below b2 hg4l _ _)
end Go.Proofs.YthklibioolnggaaGreatDoor
