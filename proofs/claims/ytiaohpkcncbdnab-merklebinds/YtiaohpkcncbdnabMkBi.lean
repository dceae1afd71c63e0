/- What the laws MerkleBinds and MerkleDigests do, whatever the world: they answer true and change nothing that was there. -/
import Derived.Test.YtiaohpkcncbdnabMkBq
import Derived.Test.YtiaohpkcncbdnabMkWr
import Derived.Test.YtiaohpkcncbdnabOpenFd
import Derived.Test.YtiaohpkcncbdnabSam3
namespace Go.Proofs.Ytiaohpkcncbdnab
open Go.RowKit
set_option linter.unusedVariables false


set_option maxRecDepth 100000 in
set_option maxHeartbeats 4000000 in
theorem merkleBinds_neg (a0 : Option Addr) (ss : List By) (c : Nat) (i : Int) (s : By) (a1 : Option Addr) (path : List By) (c1 : Nat) (w : World) (hT : Txts w a0 ss) (hm : TxtsOk ss c) (hP : Txts w a1 path) (hp : TxtsOk path c1) (hs : s.length ≤ maxLen)
    (hF : ¬ (fewB ss 20 1024 = true ∧ 1 ≤ ss.length ∧ s.length ≤ 1024 ∧ fewB path 12 100 = true)) :
    Calls Try.prog 3 #[.slice a0 ss.length c, .int .i64 i, .agg #[.string (bs s), .slice a1 path.length c1]] w fun e w' => e = .returned (.bool true) ∧ Below w.heap.size w w' := by
  obtain ⟨m1, m2, m3⟩ := hm
  obtain ⟨p1, p2, p3⟩ := hp
  have haw := hide mawake_any
  have hf1 := hide (fun w' (hb : Below w.heap.size w w') => few_any ss a0 c 20 1024 w' (hT.below hb) (by omega) (by omega) (by omega) m3)
  have hf2 := hide (fun w' (hb : Below w.heap.size w w') => few_any path a1 c1 12 100 w' (hP.below hb) (by omega) (by omega) (by omega) p3)
  have z1 := bs_size s
  unfold maxLen at hs m2
  have q1 : fewB ss 20 1024 = false ∨ (fewB ss 20 1024 = true ∧ ss.length = 0) ∨ (fewB ss 20 1024 = true ∧ ss.length ≠ 0 ∧ 1024 < (bs s).size) ∨ (fewB ss 20 1024 = true ∧ ss.length ≠ 0 ∧ (bs s).size ≤ 1024 ∧ fewB path 12 100 = false) := by
    rw [z1]
    cases h : fewB ss 20 1024 with
    | false => exact .inl rfl
    | true =>
      cases h' : fewB path 12 100 with
      | false =>
        right
        by_cases e1 : ss.length = 0
        · exact .inl ⟨rfl, e1⟩
        · by_cases e2 : 1024 < s.length
          · exact .inr (.inl ⟨rfl, e1, e2⟩)
          · exact .inr (.inr ⟨rfl, e1, by omega, rfl⟩)
      | true =>
        right
        by_cases e1 : ss.length = 0
        · exact .inl ⟨rfl, e1⟩
        · by_cases e2 : 1024 < s.length
          · exact .inr (.inl ⟨rfl, e1, e2⟩)
          · exact absurd ⟨h, by omega, by omega, h'⟩ hF
  have y1 : (bs s).size ≤ 9223372036854775807 := by omega
  have hb0 : ∀ o, Below w.heap.size w (w.alloc o) := fun o => (Below.refl _ _).alloc (Nat.le_refl _) _
  have Hb0 := hide hb0
  clear hT hP m3 p3 hF z1 hs hb0
  generalize fewB ss 20 1024 = F1 at *
  generalize fewB path 12 100 = F2 at *
  generalize path.length = m at *
  generalize ss.length = n at *
  generalize bs s = S at *
  rcases q1 with rfl | ⟨rfl, rfl⟩ | ⟨rfl, q1, q2⟩ | ⟨rfl, q1, q2, rfl⟩
  · go_enter Try.func3, Try.ntmps3
    go_wp2_with fail
    refine (unhide hf1 _ (unhide Hb0 _)).mono ?_
    rintro e w1 ⟨rfl, rfl⟩
    go_wp2_with fail
    refine (unhide haw _).mono ?_
    rintro e w1 ⟨rfl, b1⟩
    go_wp2
    go_ret
    exact ⟨rfl, (unhide Hb0 _).trans (b1.mono (unhide Hb0 _).size)⟩
  · go_enter Try.func3, Try.ntmps3
    go_wp2_with fail
    refine (unhide hf1 _ (unhide Hb0 _)).mono ?_
    rintro e w1 ⟨rfl, rfl⟩
    go_wp2_with fail
    refine (unhide haw _).mono ?_
    rintro e w1 ⟨rfl, b1⟩
    go_wp2
    go_ret
    exact ⟨rfl, (unhide Hb0 _).trans (b1.mono (unhide Hb0 _).size)⟩
  · have q3 : ¬ (n : Int) = 0 := by omega
    go_enter Try.func3, Try.ntmps3
    go_wp2_with fail
    refine (unhide hf1 _ (unhide Hb0 _)).mono ?_
    rintro e w1 ⟨rfl, rfl⟩
    go_wp2_with fail
    refine (unhide haw _).mono ?_
    rintro e w1 ⟨rfl, b1⟩
    go_wp2
    go_ret
    exact ⟨rfl, (unhide Hb0 _).trans (b1.mono (unhide Hb0 _).size)⟩
  · have q3 : ¬ (n : Int) = 0 := by omega
    go_enter Try.func3, Try.ntmps3
    go_wp2_with fail
    refine (unhide hf1 _ (unhide Hb0 _)).mono ?_
    rintro e w1 ⟨rfl, rfl⟩
    go_wp2_with fail
    refine (unhide hf2 _ (unhide Hb0 _)).mono ?_
    rintro e w1 ⟨rfl, rfl⟩
    go_wp2_with fail
    refine (unhide haw _).mono ?_
    rintro e w1 ⟨rfl, b1⟩
    go_wp2
    go_ret
    exact ⟨rfl, (unhide Hb0 _).trans (b1.mono (unhide Hb0 _).size)⟩

set_option maxRecDepth 100000 in
set_option maxHeartbeats 4000000 in
theorem merkleBinds_pos (a0 : Option Addr) (ss : List By) (c : Nat) (i : Int) (s : By) (a1 : Option Addr) (path : List By) (c1 : Nat) (w : World) (hT : Txts w a0 ss) (hm : TxtsOk ss c) (hP : Txts w a1 path) (hp : TxtsOk path c1)
    (hF1 : fewB ss 20 1024 = true) (hn1 : 1 ≤ ss.length) (hsl : s.length ≤ 1024) (hF2 : fewB path 12 100 = true) :
    Calls Try.prog 3 #[.slice a0 ss.length c, .int .i64 i, .agg #[.string (bs s), .slice a1 path.length c1]] w fun e w' => e = .returned (.bool true) ∧ Below w.heap.size w w' := by
  obtain ⟨i0, hi0, hz0, hz1, hz2⟩ := info_parts Try.infoS
  obtain ⟨m1, m2, m3⟩ := hm
  obtain ⟨p1, p2, p3⟩ := hp
  have haw := hide mawake_any
  have hf1 := hide (fun w' (hb : Below w.heap.size w w') => few_any ss a0 c 20 1024 w' (hT.below hb) (by omega) (by omega) (by omega) m3)
  have hf2 := hide (fun w' (hb : Below w.heap.size w w') => few_any path a1 c1 12 100 w' (hP.below hb) (by omega) (by omega) (by omega) p3)
  rw [hF1] at hf1
  rw [hF2] at hf2
  obtain ⟨f1, f2⟩ := of_decide_eq_true hF1
  obtain ⟨g1, g2⟩ := of_decide_eq_true hF2
  have g3 : ∀ p ∈ path, p.length ≤ 100000 := fun p hp => Nat.le_trans (g2 p hp) (by omega)
  have hE0 : mayE ss = 0 := by unfold mayE; rw [if_neg (by omega), if_neg (by omega), if_pos f2]
  obtain ⟨u, hu⟩ : ∃ u, u = i.tmod ss.length := ⟨_, rfl⟩
  have hub : -(ss.length : Int) < u ∧ u < ss.length := by
    have h1 := Int.tmod_lt_of_pos i (show (0 : Int) < ss.length by omega)
    have h2 := Int.lt_tmod_of_pos i (show (0 : Int) < ss.length by omega)
    omega
  obtain ⟨K, hKe⟩ : ∃ K : Nat, (u + ss.length).tmod ss.length = K := ⟨((u + ss.length).tmod ss.length).toNat, by have := Int.tmod_nonneg (ss.length : Int) (show 0 ≤ u + ss.length by omega); omega⟩
  have hK : K < ss.length := by
    have h1 := Int.tmod_lt_of_pos (u + ss.length) (show (0 : Int) < ss.length by omega)
    omega
  have hroot := hide (fun w' (hb : Below w.heap.size w w') => root_any ss a0 c w' (hT.below hb) (by omega) (fun s hs => Nat.le_trans (f2 s hs) (by omega)))
  rw [if_pos hE0, hE0] at hroot
  have htx := hide (fun w' (hb : Below w.heap.size w w') => mtexts_own ss a0 c w' (hT.below hb) hE0)
  have hchk := hide (fun w' (hb : Below w.heap.size w w') => check_any (treeP shaSum (ss.map (leafP shaSum))).1 ss.length K (shaSum (leafT s)) path a1 c1 w' (hP.below hb) p1 p2 (by omega) g3 (by rw [shaSum_length]; omega))
  have hrd := hide (fun w' (hb : Below w.heap.size w w') => road_any ss.length K s path a1 c1 w' (hP.below hb) p1 p2 (by omega) g3 (by omega))
  have hlf := hide (fun w => mleaf_any s w (by omega))
  have hget : Hid (∀ w', Below w.heap.size w w' → ∃ g o, a0 = some ⟨g, o, none⟩ ∧ w'.cell? ⟨g, o + K, none⟩ = some (.string (bs ss[K]))) := fun w' hb => (hT.below hb) K hK
  have hcase : (decide (foldE ss.length K (shaSum (leafT s)) path = 0 ∧ foldR ss.length K (shaSum (leafT s)) path = (treeP shaSum (ss.map (leafP shaSum))).1) = false) ∨ (decide (foldE ss.length K (shaSum (leafT s)) path = 0 ∧ foldR ss.length K (shaSum (leafT s)) path = (treeP shaSum (ss.map (leafP shaSum))).1) = true ∧ s = ss[K]) ∨ (decide (foldE ss.length K (shaSum (leafT s)) path = 0 ∧ foldR ss.length K (shaSum (leafT s)) path = (treeP shaSum (ss.map (leafP shaSum))).1) = true ∧ ¬ s = ss[K] ∧ ∃ i k, Bad ((treeP shaSum (ss.map (leafP shaSum))).2 ++ roadR ss.length K s path) i k) := by
    cases h : decide (foldE ss.length K (shaSum (leafT s)) path = 0 ∧ foldR ss.length K (shaSum (leafT s)) path = (treeP shaSum (ss.map (leafP shaSum))).1) with
    | false => exact .inl rfl
    | true =>
      obtain ⟨h5, h6⟩ := of_decide_eq_true h
      by_cases hq : s = ss[K]
      · exact .inr (.inl ⟨rfl, hq⟩)
      · exact .inr (.inr ⟨rfl, hq, binds_text ss K hK s path h5 h6 hq⟩)
  have hTl := tree_texts_len ss hn1
  have hTs := texts_short ss hn1 f2
  have hRl : (roadR ss.length K s path).length ≤ 9 ∧ ∀ t ∈ roadR ss.length K s path, t.length ≤ 2000 := rest_road ss.length K s path hsl
  generalize decide (foldE ss.length K (shaSum (leafT s)) path = 0 ∧ foldR ss.length K (shaSum (leafT s)) path = (treeP shaSum (ss.map (leafP shaSum))).1) = CK at *
  generalize roadR ss.length K s path = R at *
  generalize (treeP shaSum (ss.map (leafP shaSum))).2 = T at *
  generalize bs (treeP shaSum (ss.map (leafP shaSum))).1 = RB at *
  have hT1 : 1 ≤ T.length ∧ T.length ≤ 40 := by omega
  have hLs : Hid (∀ t ∈ T ++ R, t.length ≤ 65536) := by
    intro t ht
    rcases List.mem_append.1 ht with h | h
    · have := hTs t h; omega
    · have := hRl.2 t h; omega
  have hRl9 := hRl.1
  have hub2 := hub
  have HU := hide hu
  have q1 : ¬ (ss.length : Int) = 0 := by omega
  have q2 : (K : Int) < ss.length := by omega
  have q3 : (bs s).size ≤ 1024 := by rw [bs_size]; exact hsl
  have q4 : decide (1024 < (bs s).size) = false := decide_eq_false (by omega)
  have q5 : ¬ (1024 : Int) < ((bs s).size : Int) := by omega
  have q6 : ¬ 1024 < (bs s).size := by omega
  have q7 : ((ss.length : Int) == 0) = false := beq_eq_false_iff_ne.2 q1
  have q8 : decide ((1024 : Int) < ((bs s).size : Int)) = false := decide_eq_false q5
  have hcase' : (CK = false) ∨ (CK = true ∧ bs s = bs ss[K]) ∨ (CK = true ∧ ((bs s).toList == (bs ss[K]).toList) = false ∧ ∃ i k, Bad (T ++ R) i k) := by
    rcases hcase with h | ⟨h, h'⟩ | ⟨h, h', h''⟩
    · exact .inl h
    · exact .inr (.inl ⟨h, congrArg bs h'⟩)
    · exact .inr (.inr ⟨h, bl_neq (fun e => h' (bs_inj e)), h''⟩)
  clear hT hP m3 p3 hF1 hF2 f2 g2 g3 hE0 hu hTl hTs hRl hcase
  generalize bs ss[K] = SK at *
  generalize bs (shaSum (leafT s)) = DK at *
  generalize bs s = S at *
  generalize path.length = m at *
  generalize ss.length = n at *
  have hb0 : ∀ o, Below w.heap.size w (w.alloc o) := fun o => (Below.refl _ _).alloc (Nat.le_refl _) _
  have Hb0 := hide hb0
  have HC := hide hcase'
  clear hb0 hcase'
  go_enter Try.func3, Try.ntmps3
  go_wp2_with fail
  generalize hW : World.alloc _ _ = W
  have rW : W.heap[w.heap.size]? = some (.cells #[.string S, .slice a1 m c1] 24 (0, 0)) := by rw [← hW]; exact heap_alloc_new _ _
  have c0 : W.cell? ⟨w.heap.size, 0, none⟩ = some (.string S) := by simp only [World.cell?]; rw [rW]; rfl
  have c1' : W.cell? ⟨w.heap.size, 1, none⟩ = some (.slice a1 m c1) := by simp only [World.cell?]; rw [rW]; rfl
  have bW : Below w.heap.size w W := by rw [← hW]; exact unhide Hb0 _
  clear hW rW
  refine (unhide hf1 _ bW).mono ?_
  rintro e w1 ⟨rfl, rfl⟩
  go_wp2_with fail
  refine (unhide hf2 _ bW).mono ?_
  rintro e w1 ⟨rfl, rfl⟩
  have hu := (unhide HU).symm
  go_wp2_with fail
  refine (unhide hroot _ bW).mono ?_
  rintro e w1 ⟨rfl, b1⟩
  have B1 := hide (bW.trans (b1.mono bW.size))
  have d0 := cell_below c0 b1
  have d1 := cell_below c1' b1
  clear c0 c1' b1 bW hroot hf1 hf2
  go_wp2_with fail
  refine (unhide haw _).mono ?_
  rintro e w2 ⟨rfl, b2⟩
  have B2 := hide ((unhide B1).trans (b2.mono (unhide B1).size))
  have c0 := cell_below d0 b2
  have c1' := cell_below d1 b2
  obtain ⟨g, o, rfl, y1⟩ := unhide hget _ (unhide B2)
  clear d0 d1 b2 B1 hget
  go_wp2_with fail
  have e0 : ∀ x : Gb w2, x.w.cell? ⟨w.heap.size, 0, none⟩ = some (.string S) := fun x => gb_cell c0 x
  have e1 : ∀ x : Gb w2, x.w.cell? ⟨w.heap.size, 1, none⟩ = some (.slice a1 m c1) := fun x => gb_cell c1' x
  have e2 : ∀ x : Gb w2, x.w.cell? ⟨g, o + K, none⟩ = some (.string SK) := fun x => gb_cell y1 x
  have hBx : Hid (∀ x : Gb w2, Below w.heap.size w x.w) := fun x => (unhide B2).trans (x.ok.mono (unhide B2).size)
  have hneG := gb_ne w2
  rcases unhide HC with hck | ⟨hck, hXY⟩ | ⟨hck, hXY, hbad⟩
  · rw [hck] at hchk
    clear HC hck
    refine wp_region_gr (fun x => Below w2.heap.size w2 x) (by kernel_rfl) (by kernel_rfl) (gb_start w2) ?_
    repeat (go_big_quiet_step ((first | (go_at_call 10; exact gb_call (unhide hlf _)) | (go_at_call 9; exact gb_call (unhide hchk _ (unhide hBx _))))))
    refine wpQuiet_nil ?_
    rintro w7 ⟨⟨_, b7⟩, rfl⟩
    have B7 := hide ((unhide B2).trans (b7.mono (unhide B2).size))
    clear b7 e0 e1 e2 hneG hBx c0 c1' y1
    go_wp2
    go_ret
    exact ⟨rfl, unhide B7⟩
  · rw [hck] at hchk
    subst hXY
    clear HC hck
    refine wp_region_gr (fun x => Below w2.heap.size w2 x) (by kernel_rfl) (by kernel_rfl) (gb_start w2) ?_
    repeat (go_big_quiet_step ((first | (go_at_call 10; exact gb_call (unhide hlf _)) | (go_at_call 9; exact gb_call (unhide hchk _ (unhide hBx _))))))
    refine wpQuiet_nil ?_
    rintro w7 ⟨⟨_, b7⟩, rfl⟩
    have B7 := hide ((unhide B2).trans (b7.mono (unhide B2).size))
    clear b7 e0 e1 e2 hneG hBx c0 c1' y1
    go_wp2
    go_ret
    exact ⟨rfl, unhide B7⟩
  · rw [hck] at hchk
    clear HC hck
    refine wp_region_gr (fun x => Below w2.heap.size w2 x) (by kernel_rfl) (by kernel_rfl) (gb_start w2) ?_
    repeat (go_big_quiet_step ((first | (go_at_call 10; exact gb_call (unhide hlf _)) | (go_at_call 9; exact gb_call (unhide hchk _ (unhide hBx _))))))
    refine wpQuiet_nil ?_
    rintro w7 ⟨⟨_, b7⟩, rfl⟩
    have B7 := hide ((unhide B2).trans (b7.mono (unhide B2).size))
    have d0 := cell_below c0 b7
    have d1 := cell_below c1' b7
    have HBad := hide hbad
    clear b7 e0 e1 e2 hneG hBx c0 c1' y1 hXY hbad hchk hlf B2
    go_wp2_with fail
    have hB7 : Hid (∀ x : Gb w7, Below w.heap.size w x.w) := fun x => (unhide B7).trans (x.ok.mono (unhide B7).size)
    refine wp_region_same3 [] 10 1 9 77 85 13 ?A0 (fun v w' => OwnS w' w.heap.size v T) (fun v w' => OwnS w' w.heap.size v R) (by kernel_rfl) (by kernel_rfl) (fun v _ _ h hb => own_below2 h hb) (fun v _ _ h hb => own_below2 h hb) ?lex ?gA ?sa ?sb ?_
    case lex =>
      intro Y
      have hneY := gb_ne Y.w
      have g0 : ∀ y : Gb Y.w, y.w.cell? ⟨w.heap.size, 0, none⟩ = some (.string S) := fun y => gb_cell (gb_cell d0 Y) y
      have g1 : ∀ y : Gb Y.w, y.w.cell? ⟨w.heap.size, 1, none⟩ = some (.slice a1 m c1) := fun y => gb_cell (gb_cell d1 Y) y
      dsimp only [boxRest, List.take_succ_cons, List.take_zero, List.eraseIdx_cons_succ, List.eraseIdx_cons_zero]
      repeat (go_big_quiet_step ((fail)))
      refine wpQuiet_nil ?_
      exact rfl
    case gA => intro g' hg'; cases hg'
    case sa =>
      intro op ho x b hy
      obtain rfl := Option.some.inj ho
      have y0 : b.eval (.tmp 76) = .slice (some ⟨g, o, none⟩) n c := hy (.tmp 76) (by simp [Op.operands, Call.operands])
      refine wp_call 12 #[.tmp 76] _ rfl Try.call12 #[.slice (some ⟨g, o, none⟩) n c] (by simp [y0]) (unhide htx x.w (unhide hB7 x)) ?_
      rintro e w3 ⟨v, rfl, hv, b3⟩
      exact ⟨v, rfl, v, rfl, own_mono hv (unhide hB7 x).size, b3⟩
    case sb =>
      intro op ho x b hy
      obtain rfl := Option.some.inj ho
      have y0 : b.eval (.tmp 79) = .int .i64 n := hy (.tmp 79) (by simp [Op.operands, Call.operands])
      have y1 : b.eval (.tmp 80) = .int .i64 K := hy (.tmp 80) (by simp [Op.operands, Call.operands])
      have y2 : b.eval (.tmp 82) = .string S := hy (.tmp 82) (by simp [Op.operands, Call.operands])
      have y3 : b.eval (.tmp 84) = .slice a1 m c1 := hy (.tmp 84) (by simp [Op.operands, Call.operands])
      refine wp_call 13 #[.tmp 79, .tmp 80, .tmp 82, .tmp 84] _ rfl Try.call13 #[.int .i64 n, .int .i64 K, .string S, .slice a1 m c1] (by simp [y0, y1, y2, y3]) (unhide hrd x.w (unhide hB7 x)) ?_
      rintro e w3 ⟨v, rfl, hv, b3⟩
      exact ⟨v, rfl, v, rfl, own_mono hv (unhide hB7 x).size, b3⟩
    intro va vb w8 b8 hA hBb
    dsimp only [List.take_succ_cons, List.take_zero, List.drop_succ_cons, List.drop_zero]
    have B8 := hide ((unhide B7).trans (b8.mono (unhide B7).size))
    have hz8 := (unhide B8).size
    have HA := hide (show World.ownsRow _ _ _ _ _ _ _ from hA)
    obtain ⟨ga, ca, rfl, _, _⟩ := hA.form hT1.1
    have hL100 : (T ++ R).length ≤ 100000 := by rw [List.length_append]; omega
    rcases hBb.two with ⟨rfl, rfl⟩ | ⟨gb, cb, rfl, _, hgl, hcells⟩
    · have t9 : Txts w8 (some ⟨ga, 0, none⟩) (T ++ []) := by
        rw [List.append_nil]
        obtain ⟨a', c', e', t'⟩ := hA.txts
        simp only [Value.slice.injEq] at e'
        obtain ⟨rfl, _, rfl⟩ := e'
        exact t'
      have hwit := mwitness_any (T ++ []) (some ⟨ga, 0, none⟩) ca w8 t9 hL100 (unhide hLs)
      have hTT : Hid ((T ++ ([] : List By)).length = T.length) := by show _ = _; simp
      rw [unhide hTT] at hwit
      have HWt := hide hwit
      clear hwit t9 hA hBb b8 d0 d1 hB7 B7 htx hrd hL100
      refine wpList_append_own_none rfl (.tmp 77) (.tmp 85) 22 rfl w.heap.size 9 i0 1 Try.undS hi0 (.slice (some ⟨ga, 0, none⟩) T.length ca) T.length (sc T) rfl (unhide HA) rfl ?_
      have B9 := B8
      go_wp2_with fail
      refine (unhide HWt).mono ?_
      rintro e w10 ⟨l, r, hWt, rfl, b10⟩
      rw [← unhide hTT] at hWt
      obtain ⟨hl, hr, hb⟩ := wit_told hWt (unhide HBad)
      have hb' := hb
      obtain ⟨_, _, _, hu1, hu2⟩ := hb'
      rw [witG_in hl hl, witG_in hl hr]
      have s1 := hide (fun w => rsum_t (T ++ [])[l] w (unhide hLs _ (List.getElem_mem hl)))
      have s2 := hide (fun w => rsum_t (T ++ [])[r] w (unhide hLs _ (List.getElem_mem hr)))
      rw [hu2] at s1
      have hne := bl_neq (fun h : bs (T ++ [])[l] = bs (T ++ [])[r] => hu1 (bs_inj h))
      rw [← unhide hTT, decide_eq_true hl]
      have B10 := hide ((unhide B9).trans (b10.mono (unhide B9).size))
      generalize bs (shaSum (T ++ [])[r]) = XX at *
      generalize bs (T ++ [])[l] = X1 at *
      generalize bs (T ++ [])[r] = X2 at *
      clear hu1 hu2 hb hWt b10 B9 HWt hTT HBad
      go_wp2
      refine onlyN ?_
      show wpQuiet _ _ _ _ _ _
      try dsimp only [List.drop_succ_cons, List.drop_zero]
      refine quiet_extract rfl (.tmp 75) 0 rfl #[.string X1, .string X2, .bool true] (.string X1) rfl rfl ?_
      refine quiet_extract rfl (.tmp 75) 1 rfl #[.string X1, .string X2, .bool true] (.string X2) rfl rfl ?_
      refine quiet_extract rfl (.tmp 75) 2 rfl #[.string X1, .string X2, .bool true] (.bool true) rfl rfl ?_
      refine quiet_assign rfl (.tmp 88) rfl (.string X1) rfl ?_
      refine quiet_assign rfl (.tmp 89) rfl (.string X2) rfl ?_
      refine quiet_assign rfl (.tmp 90) rfl (.bool true) rfl ?_
      refine wpQuiet_nil ?_
      try simp only [Act.put, List.setIfInBounds_toArray, List.set_cons_succ, List.set_cons_zero]
      go_wp2_with fail
      refine (unhide s1 _).mono ?_
      rintro e w11 ⟨rfl, b11⟩
      have B11 := hide ((unhide B10).trans (b11.mono (unhide B10).size))
      clear b11 B10
      go_wp2_with fail
      refine (unhide s2 _).mono ?_
      rintro e w12 ⟨rfl, b12⟩
      have B12 := hide ((unhide B11).trans (b12.mono (unhide B11).size))
      clear b12 B11
      go_wp2
      go_ret
      exact ⟨rfl, unhide B12⟩
    · have hnews : Hid (∀ j u, (sc R)[j]? = some u → w8.cell? ((⟨gb, 0, none⟩ : Addr).add j) = some u) := hcells
      clear hA hBb b8 d0 d1 hB7 B7 htx hrd hcells
      refine wpList_append_own _ rfl (.tmp 77) (.tmp 85) 22 rfl w.heap.size 9 i0 (.string ⟨#[]⟩) 1 16 Try.undS hi0 hz0 hz1 hz2 rfl (by decide) (.slice (some ⟨ga, 0, none⟩) T.length ca) T.length (sc T) rfl (unhide HA) ⟨gb, 0, none⟩ R.length cb (sc R) rfl ?d1 (unhide hnews) ?d2 ?d3 ?d4 ?d5 ?_
      case d1 => simp [sc]
      case d2 => first | exact oneCell_sc R | (intro u hu; exact oneCell_sc R u hu)
      case d3 => unfold maxLen; omega
      case d4 => omega
      case d5 => first | omega | (simp; omega)
      intro v9 w9 hown9 hgrow9 _
      have B9 := hide ((unhide B8).grown hgrow9 hz8 (fun q hq => ((unhide HA).lt q hq).1))
      have H9 : OwnS w9 w.heap.size v9 (T ++ R) := by
        show World.ownsRow _ _ _ _ _ _ _
        rw [sc_append, List.length_append]
        exact hown9
      obtain ⟨a9, c9, rfl⟩ := own_shapeN hown9
      have t9 : Txts w9 a9 (T ++ R) := by
        obtain ⟨a', c', e', t'⟩ := H9.txts
        simp only [Value.slice.injEq] at e'
        obtain ⟨rfl, _, rfl⟩ := e'
        exact t'
      have hwit := mwitness_any (T ++ R) a9 c9 w9 t9 hL100 (unhide hLs)
      rw [List.length_append] at hwit
      have HWt := hide hwit
      have hTT : Hid ((T ++ R).length = T.length + R.length) := List.length_append ..
      clear hwit t9 H9 hown9 hgrow9 HA B8 hnews hL100
      go_wp2_with fail
      refine (unhide HWt).mono ?_
      rintro e w10 ⟨l, r, hWt, rfl, b10⟩
      rw [← unhide hTT] at hWt
      obtain ⟨hl, hr, hb⟩ := wit_told hWt (unhide HBad)
      have hb' := hb
      obtain ⟨_, _, _, hu1, hu2⟩ := hb'
      rw [witG_in hl hl, witG_in hl hr]
      have s1 := hide (fun w => rsum_t (T ++ R)[l] w (unhide hLs _ (List.getElem_mem hl)))
      have s2 := hide (fun w => rsum_t (T ++ R)[r] w (unhide hLs _ (List.getElem_mem hr)))
      rw [hu2] at s1
      have hne := bl_neq (fun h : bs (T ++ R)[l] = bs (T ++ R)[r] => hu1 (bs_inj h))
      rw [← unhide hTT, decide_eq_true hl]
      have B10 := hide ((unhide B9).trans (b10.mono (unhide B9).size))
      generalize bs (shaSum (T ++ R)[r]) = XX at *
      generalize bs (T ++ R)[l] = X1 at *
      generalize bs (T ++ R)[r] = X2 at *
      clear hu1 hu2 hb hWt b10 B9 HWt hTT HBad
      go_wp2
      refine onlyN ?_
      show wpQuiet _ _ _ _ _ _
      try dsimp only [List.drop_succ_cons, List.drop_zero]
      refine quiet_extract rfl (.tmp 75) 0 rfl #[.string X1, .string X2, .bool true] (.string X1) rfl rfl ?_
      refine quiet_extract rfl (.tmp 75) 1 rfl #[.string X1, .string X2, .bool true] (.string X2) rfl rfl ?_
      refine quiet_extract rfl (.tmp 75) 2 rfl #[.string X1, .string X2, .bool true] (.bool true) rfl rfl ?_
      refine quiet_assign rfl (.tmp 88) rfl (.string X1) rfl ?_
      refine quiet_assign rfl (.tmp 89) rfl (.string X2) rfl ?_
      refine quiet_assign rfl (.tmp 90) rfl (.bool true) rfl ?_
      refine wpQuiet_nil ?_
      try simp only [Act.put, List.setIfInBounds_toArray, List.set_cons_succ, List.set_cons_zero]
      go_wp2_with fail
      refine (unhide s1 _).mono ?_
      rintro e w11 ⟨rfl, b11⟩
      have B11 := hide ((unhide B10).trans (b11.mono (unhide B10).size))
      clear b11 B10
      go_wp2_with fail
      refine (unhide s2 _).mono ?_
      rintro e w12 ⟨rfl, b12⟩
      have B12 := hide ((unhide B11).trans (b12.mono (unhide B11).size))
      clear b12 B11
      go_wp2
      go_ret
      exact ⟨rfl, unhide B12⟩

theorem bs_len2 (s : ByteArray) : (s.data.toList : By).length = s.size := (bs_size s.data.toList).symm
theorem merkleBinds_w (a0 : Option Addr) (ss : List By) (c : Nat) (i : Int) (s : ByteArray) (a1 : Option Addr) (path : List By) (c1 : Nat) (w : World) (hT : Txts w a0 ss) (hm : TxtsOk ss c) (hP : Txts w a1 path ∧ s.size ≤ maxLen) (hp : TxtsOk path c1) :
    Calls Try.prog 3 #[.slice a0 ss.length c, .int .i64 i, .agg #[.string s, .slice a1 path.length c1]] w fun e w' => e = .returned (.bool true) ∧ Below w.heap.size w w' := by
  by_cases hF : fewB ss 20 1024 = true ∧ 1 ≤ ss.length ∧ (s.data.toList : By).length ≤ 1024 ∧ fewB path 12 100 = true
  · exact merkleBinds_pos a0 ss c i s.data.toList a1 path c1 w hT hm hP.1 hp hF.1 hF.2.1 hF.2.2.1 hF.2.2.2
  · exact merkleBinds_neg a0 ss c i s.data.toList a1 path c1 w hT hm hP.1 hp (by rw [bs_len2]; exact hP.2) hF

end Go.Proofs.Ytiaohpkcncbdnab
