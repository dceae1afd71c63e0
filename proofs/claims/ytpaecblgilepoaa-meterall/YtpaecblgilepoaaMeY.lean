/- MeterAll. -/
import Derived.Test.YtpaecblgilepoaaMeX
import Derived.Test.YtpaecblgilepoaaOpenA
import Derived.Test.YtpaecblgilepoaaEfk
namespace Go.Proofs.Ytpaecblgilepoaa
open Go.RowKit
set_option linter.unusedVariables false
attribute [local go_sem] Oper.semAt_some

theorem AI.weigh' {w : World} {b a : Nat} {q : Int} {k p : Nat} {L : Nat → List Int} {x : World} (h : AI w b a q (fW k) L x) (hk : k < 15) (hp : p = k + 1) :
    Calls Try.prog 20 #[.pointer (some ⟨b, 0, none⟩), .int .i64 (p : Int), .int .i64 (1 + (p : Int) % 3)] x fun e w' => e = .returned (.int .i64 0) ∧ AI w b a q (fW p) L w' := by
  subst hp
  exact h.weigh hk
theorem ask_cells {w x : World} {a0 : Option Addr} {n : Nat} {F : Nat → Int × Int × Int} (h : AsksAt w a0 n F) (hb : Below w.heap.size w x) (i : Nat) (hi : i < n) :
    ∃ b off, a0 = some ⟨b, off, none⟩ ∧ b < w.heap.size ∧ x.cell? ⟨b, off + i * 3, none⟩ = some (.int .i64 (F i).1) ∧ x.cell? ⟨b, off + i * 3 + 1, none⟩ = some (.int .i64 (F i).2.1) ∧ x.cell? ⟨b, off + i * 3 + 2, none⟩ = some (.int .i64 (F i).2.2) := by
  obtain ⟨b, off, h1, h2, ⟨h3, h4, h5⟩, _⟩ := h i hi
  exact ⟨b, off, h1, h2, (hb.cell h2).trans h3, (hb.cell h2).trans h4, (hb.cell h2).trans h5⟩
/-- ahead of a call and behind it -/
structure AJ (w : World) (b a : Nat) (q : Int) (f f2 : Nat → Qu) (L : Nat → List Int) (j : Nat) (x : World) : Prop where
  ai : AI w b a q (if j = 0 then f else f2) L x
theorem AJ.up {w : World} {b a : Nat} {q : Int} {f f2 : Nat → Qu} {L : Nat → List Int} {j : Nat} {x y : World} (h : AJ w b a q f f2 L j x) (hb : Below x.heap.size x y) : AJ w b a q f f2 L j y := ⟨h.ai.up hb⟩
theorem AJ.add {w : World} {b a : Nat} {q : Int} {f : Nat → Qu} {L : Nat → List Int} {x : World} (p s : Int) (h : AJ w b a q f (addF f p s) L 0 x) :
    Calls Try.prog 22 #[.pointer (some ⟨b, 0, none⟩), .int .i64 p, .int .i64 s] x fun e w' => e = .returned (.int .i64 (addE f p s)) ∧ AJ w b a q f (addF f p s) L 1 w' := by
  have h1 := h.ai
  rw [if_pos rfl] at h1
  refine (h1.add p s).mono ?_
  rintro e w' ⟨he, h2⟩
  exact ⟨he, ⟨by rw [if_neg (by decide)]; exact h2⟩⟩
theorem fW_rows : (fun p => (fW 15 p).l) = fun _ => ([] : List Int) := by
  funext p
  unfold fW
  split <;> rfl
set_option maxRecDepth 100000 in
set_option maxHeartbeats 20000000 in
theorem meterAll_good (q : Int) (a0 : Option Addr) (n c : Nat) (F : Nat → Int × Int × Int) (w : World) (hq : 1 ≤ q ∧ q ≤ 65536) (hA : AsksAt w a0 n F) :
    Calls Try.prog 6 #[.int .i64 q, .slice a0 n c] w fun e w' => e = .returned (.bool true) ∧ Below w.heap.size w w' := by
  have g1 := hide (newShare_yes q w hq)
  have HA := hide hA
  have HQ := hide hq
  clear hA hq
  go_enter Try.func6, Try.ntmps6
  go_wp2_with fail
  refine (unhide g1).mono ?_
  rintro e w1 ⟨rfl, e1⟩
  have hS0 := newShare_at q w.heap.size w (Nat.le_refl _)
  have B0 := (Below.refl w.heap.size w).alloc (Nat.le_refl _) (.cells (newC q) 79)
  rw [← e1] at hS0 B0
  have HS0 := hide hS0
  have HB0 := hide B0
  clear e1 g1 hS0 B0
  go_wp2_with fail
  refine (mawake_any w1).mono ?_
  rintro e w2 ⟨rfl, b2⟩
  have HA0 : Hid (AI w w.heap.size w2.heap.size q (fW 0) (fun _ => []) (w2.alloc (.cells nilA 62))) := by
    have hs2 := (unhide HS0).up b2
    have hb2 := (unhide HB0).trans (b2.mono (unhide HB0).size)
    refine ⟨⟨noV, noV, ?_, WA.new w2 w.heap.size noV hb2.size⟩, hb2.alloc hb2.size _⟩
    rw [fW_zero]
    exact hs2.up ((Below.refl _ w2).alloc (Nat.le_refl _) _)
  clear b2 HS0 HB0
  unfold nilA at HA0
  go_wp2_with fail
  generalize hb : w.heap.size = b at *
  generalize ha : w2.heap.size = a at *
  generalize hW : w2.alloc (.cells _ 62) = W at *
  clear hW
  have HLa := hide ha
  have HLb := hide hb
  clear ha hb
  go_loopw [7] (fun iv wr => ∃ (k p : Nat), k ≤ 15 ∧ p = k + 1 ∧ iv = .int .i64 p ∧ AI w b a q (fW k) (fun _ => []) wr) (fun iv _ => 16 - (intOf iv).toNat)
  case atStart => exact ⟨0, 1, by omega, rfl, rfl, unhide HA0⟩
  case round =>
    obtain ⟨k, p, hk, hp, rfl, hai⟩ := hrel
    have HAI := hide hai
    clear hai
    by_cases hlt : p ≤ 15
    · have q1 : (p : Int) ≤ 15 := by omega
      have HC := hide (AI.weigh' (unhide HAI) (by omega) hp)
      clear hp HAI
      go_wp2_with fail
      refine (unhide HC).mono ?_
      rintro e w3 ⟨rfl, hai⟩
      have HAI := hide hai
      clear hai HC
      go_wp2
      go_roundw
      case rel => exact ⟨p, p + 1, by omega, rfl, by go_num, unhide HAI⟩
      case measure => simp [intOf]; omega
    · have q1 : ¬ (p : Int) ≤ 15 := by omega
      have hk15 : k = 15 := by omega
      subst hk15
      clear hp
      go_wp2
      obtain ⟨wo, rfl⟩ : ∃ x, x = wr := ⟨_, rfl⟩
      go_loopw [8] (fun iv wr => ∃ (i : Nat) (f : Nat → Qu), i ≤ n ∧ i ≤ 60 ∧ iv = .int .i64 i ∧ AI w b a q f (fun p => (f p).l) wr ∧ AK f i) (fun iv _ => n - (intOf iv).toNat)
      case atStart => exact ⟨0, fW 15, by omega, by omega, rfl, by rw [fW_rows]; exact unhide HAI, AK.zero⟩
      case round =>
        obtain ⟨i, f, hin, hi60, rfl, hai, hak⟩ := hrel
        have HI := hide hai
        have HK := hide hak
        clear hai hak HAI HA0
        by_cases hlt : i < n ∧ i < 60
        · have q1 : (i : Int) < n := by omega
          have q2 : (i : Int) < 60 := by omega
          obtain ⟨gd, od, rfl, hgl, c0, c1, c2⟩ := ask_cells (unhide HA) (unhide HI).be i hlt.1
          have HCELL : Hid (∀ x, Below w.heap.size w x → x.cell? ⟨gd, od + i * 3, none⟩ = some (.int .i64 (F i).1) ∧ x.cell? ⟨gd, od + i * 3 + 1, none⟩ = some (.int .i64 (F i).2.1) ∧ x.cell? ⟨gd, od + i * 3 + 2, none⟩ = some (.int .i64 (F i).2.2)) := by
            intro x hx
            obtain ⟨g', o', h1, _, h2⟩ := ask_cells (unhide HA) hx i hlt.1
            cases h1
            exact h2
          clear hgl
          generalize (F i).1 = kd at *
          generalize (F i).2.1 = P at *
          generalize (F i).2.2 = s at *
          by_cases k1 : kd = 1
          · subst k1
            have HS0 : Hid (AJ w b a q f (addF f P s) (fun p => (f p).l) 0 wr) := ⟨by rw [if_pos rfl]; exact unhide HI⟩
            have HAD := hide (fun (x : World) (h : AJ w b a q f (addF f P s) (fun p => (f p).l) 0 x) => h.add P s)
            have HK2 := hide ((unhide HK).add P s)
            by_cases hE : addE f P s = 0
            · have HZ := hide (addE_zero hE)
              have HRW := hide (addF_row hE)
              rw [hE] at HAD
              generalize addF f P s = f2 at *
              clear c0 c1 c2
              go_wp2_with fail
              refine wp_region_do [false, false, false, false, false, false, false, false, false, false, false, false, false, false, false, false, false, false, true, false, false] [(59, true)] [71] _ ?A0a (AJ w b a q f f2 (fun p => (f p).l)) 1 (by kernel_rfl) (by kernel_rfl) (by kernel_rfl) rfl ?S00a (fun j x y h hb => h.up hb) ((Off.refl _ _).put 71 (.int .i64 0) (by simp)) ?lex0a ?gA0a ?do0a ?_
              case S00a =>
                intro x hx
                exact (unhide HS0).up hx
              case lex0a =>
                intro j x hS
                have hcX : ∀ y : Gb x, y.w.cell? ⟨gd, od + i * 3, none⟩ = some (.int .i64 1) := fun y => gb_cell ((unhide HCELL) x hS.ai.be).1 y
                have hcY : ∀ y : Gb x, y.w.cell? ⟨gd, od + i * 3 + 1, none⟩ = some (.int .i64 P) := fun y => gb_cell ((unhide HCELL) x hS.ai.be).2.1 y
                have hcZ : ∀ y : Gb x, y.w.cell? ⟨gd, od + i * 3 + 2, none⟩ = some (.int .i64 s) := fun y => gb_cell ((unhide HCELL) x hS.ai.be).2.2 y
                have hneX := gb_ne x
                clear hS
                simp only [Act.put, List.setIfInBounds_toArray, List.set_cons_succ, List.set_cons_zero]
                dsimp only [restM]
                repeat (go_big_quiet_step (fail))
                refine wpQuiet_nil ?_
                exact rfl
              case gA0a =>
                intro g hg
                simp only [List.mem_singleton] at hg
                subst hg
                rfl
              case do0a =>
                dsimp only [effM]
                refine ⟨?_, trivial⟩
                intro x hS
                have HSx := hide hS
                clear hS
                go_wp2_with fail
                refine (unhide HAD x (unhide HSx)).mono ?_
                rintro e w5 ⟨rfl, hs⟩
                have HSS := hide hs
                clear HSx hs
                go_wp2_with fail
                exact onlyN ⟨rfl, unhide HSS⟩
              intro x hSx
              have HX := hide hSx
              clear hSx HS0 HAD
              obtain ⟨p1, p2, s1, s2, hl100, _⟩ := unhide HZ
              obtain ⟨pn, rfl⟩ : ∃ pn : Nat, P = pn := ⟨P.toNat, by omega⟩
              rw [Int.toNat_natCast] at hl100
              have HRW2 : Hid ((fun k => (f2 k).l) = qup (fun k => (f k).l) pn ((f pn).l ++ [s])) := by
                have := unhide HRW
                rw [Int.toNat_natCast] at this
                exact this
              have hai := (unhide HX).ai
              rw [if_neg (by decide)] at hai
              obtain ⟨V, U, hs, hw⟩ := hai.ex
              have HBE := hide hai.be
              have hp16 : pn < 16 := by omega
              obtain ⟨a1, c1, hU⟩ := (hw.own pn hp16).slice
              have hO := hw.own pn hp16
              have hcU := hw.us pn hp16
              have hfr := hw.toWB.free pn
              try dsimp only at hU hO
              rw [hU] at hcU hO
              have HS := hide hs
              have HW := hide hw
              have HO := hide hO
              have HU := hide hU
              generalize hm : (f pn).l.length = m at *
              have HM := hide hm
              clear hai hs hw hO hU hm HRW HZ HX HI HK hE
              obtain ⟨i0, hi, hz0, hz1, hz2⟩ := info_parts Try.infoI
              go_wp2_with fail
              refine wp_region_efk [false, false, false, false, false, false, false, false, false, false, false, false, false, false, false, false, false, true, true, false, true] [0, 1, 2, 3, 4, 19] 17 ?A1 _ _ _ (fun y => Below w.heap.size w y) (by kernel_rfl) (by kernel_rfl) rfl ?lexE ?freeE ?_
              case lexE =>
                intro X
                have hneX := gb_ne X.w
                have hcX : ∀ y : Gb X.w, y.w.cell? ⟨gd, od + i * 3 + 1, none⟩ = some (.int .i64 pn) := fun y => gb_cell ((unhide HCELL) X.w ((unhide HBE).trans (X.ok.mono (unhide HBE).size))).2.1 y
                have hcY : ∀ y : Gb X.w, y.w.cell? ⟨gd, od + i * 3 + 2, none⟩ = some (.int .i64 s) := fun y => gb_cell ((unhide HCELL) X.w ((unhide HBE).trans (X.ok.mono (unhide HBE).size))).2.2 y
                have hcU' : ∀ y : Gb X.w, y.w.cell? ⟨a, pn, none⟩ = some (.slice a1 m c1) := fun y => gb_cell (gb_cell hcU X) y
                dsimp only [restM]
                repeat (go_big_quiet_step (fail))
                refine wpQuiet_nil ?_
                exact rfl
              case freeE =>
                intro j hj o ho W hF
                have hcX : W.cell? ⟨gd, od + i * 3 + 1, none⟩ = some (.int .i64 pn) := (unhide HCELL W hF).2.1
                simp only [List.mem_cons, List.not_mem_nil, or_false] at hj
                clear hF
                rcases hj with rfl | rfl | rfl | rfl | rfl | rfl
                all_goals
                  simp only [List.getElem?_cons_succ, List.getElem?_cons_zero, Option.some.injEq] at ho
                  subst ho
                  go_big_quiet_step (fail)
                  refine wpQuiet_nil ?_
                  exact rfl
              intro w8 b8
              have HB8 := hide ((unhide HBE).trans (b8.mono (unhide HBE).size))
              have HS8 := hide ((unhide HS).up b8)
              have HW8 := hide ((unhide HW).up b8)
              have HO8 := hide ((unhide HW8).own pn hp16)
              try dsimp only at HO8
              rw [unhide HU] at HO8
              have hz8 := (unhide HB8).size
              have hcU8 := (unhide HW8).us pn hp16
              have hfr8 := (unhide HW8).toWB.free pn
              rw [unhide HU] at hcU8
              clear hcU hfr b8 HO HS HW HBE
              go_wp2_with fail
              refine onlyN ⟨(Below.refl _ _).alloc (Nat.le_refl _) _, ?_⟩
              have HR8 : Hid (w8.ownsRow w.heap.size 3 1 (.slice a1 m c1) m (ic (f pn).l)) := by
                have := unhide HO8
                unfold OwnI at this
                rw [unhide HM] at this
                exact this
              go_wp2_with (at_builtin; refine wpList_append_lies _ rfl _ _ 57 rfl w.heap.size 3 i0 (.int .i64 0) 1 8 Try.undI hi hz0 hz1 hz2 rfl (by decide) (.slice a1 m c1) m _ rfl ((unhide HR8).alloc _) ⟨w8.heap.size, 0, none⟩ 1 1 [.int .i64 s] rfl rfl (World.news_of_block (heap_alloc_new w8 _)) ?d2 (by decide) ?d3 ?d4 ?d5 (w8.heap.size + 1) ?d6 ?_)
              case d2 => intro u hu; simp at hu; subst hu; rfl
              case d3 => unfold maxLen; omega
              case d4 => omega
              case d5 => simp; omega
              case d6 => simp
              intro g cap w3 hown hgrow hat hlt3
              have hbA : Below w8.heap.size w8 (w8.alloc (.cells #[.int .i64 s] 3)) := (Below.refl _ _).alloc (Nat.le_refl _) _
              have hwA := (unhide HW8).up hbA
              have hsA := (unhide HS8).up hbA
              have hown' : OwnI w3 w.heap.size (.slice (some ⟨g, 0, none⟩) ((f pn).l ++ [s]).length cap) ((f pn).l ++ [s]) := by
                unfold OwnI
                rw [ic_append, List.length_append, unhide HM]
                exact hown
              have hkeep : ∀ k, k < (w8.alloc (.cells #[.int .i64 s] 3)).heap.size → (U pn).ownBlock ≠ some k → w3.heap[k]? = (w8.alloc (.cells #[.int .i64 s] 3)).heap[k]? := fun k hk hn => hgrow.block k hk (fun e => hn (by rw [unhide HU]; exact e.symm))
              have hat' : (U pn).ownBlock = some g ∨ (w8.alloc (.cells #[.int .i64 s] 3)).heap.size ≤ g := by
                rw [unhide HU]
                rcases hat with h | h
                · exact .inl h
                · exact .inr (by simp; omega)
              obtain ⟨k1, k2⟩ := hwA.grow hsA pn hp16 g cap _ hkeep hat' hown'
              have hblk : w3.heap[a]? = w8.heap[a]? := by
                have hca := hwA.blk
                obtain ⟨ca, hca⟩ := hca
                refine (hkeep a hwA.lt (fun e => (hwA.own pn hp16).notB hca (by decide) e)).trans (Below.heap_alloc _ _ _ (unhide HW8).lt)
              have d2 : w3.cell? ⟨a, pn, none⟩ = some (.slice a1 m c1) := (World.cell?_of_block hblk).trans hcU8
              have d3 : w3.frozen? ⟨a, pn, none⟩ = false := (World.frozen?_of_block hblk).trans hfr8
              have hB3 : Below w.heap.size w w3 := ((unhide HB8).alloc hz8 _).grown hgrow (by simp; omega) (fun k' hk => by
                have := (World.ownsRow.lt (show World.ownsRow _ _ _ _ _ _ _ from unhide HR8) k' hk).1
                exact this)
              have HB3 := hide hB3
              have hlen : ((f pn).l ++ [s]).length = m + 1 := by rw [List.length_append, unhide HM]; rfl
              rw [hlen] at k1 k2
              have HAI3 : Hid (AI w b a q f2 (fun k => (f2 k).l) (w3.setCell ⟨a, pn, none⟩ (.slice (some ⟨g, 0, none⟩) (m + 1) cap))) := by
                refine ⟨⟨V, qup U pn (.slice (some ⟨g, 0, none⟩) (m + 1) cap), k2, ?_⟩, hB3.setCell (p := ⟨a, pn, none⟩) (unhide HW8).hb _⟩
                rw [unhide HRW2]
                exact k1
              clear k1 k2 hblk hB3 hlen hat' hkeep hown' hwA hsA hbA hown hgrow hat hlt3 HR8 HO8 HW8 HS8 HB8
              go_wp2_with fail
              refine onlyN ⟨unhide HB3, ?_⟩
              go_wp2_with fail
              refine onlyN ⟨(unhide HAI3).be, ?_⟩
              go_wp2
              go_roundw
              case rel => exact ⟨i + 1, f2, by omega, by omega, by go_num, unhide HAI3, unhide HK2⟩
              case measure => simp [intOf]; omega
            · have e0 : (addE f P s == 0) = false := by simpa using hE
              have hno := addF_no hE
              generalize addE f P s = E at *
              rw [hno] at HK2 HS0 HAD
              clear c0 c1 c2
              go_wp2_with fail
              refine wp_region_do [false, false, false, false, false, false, false, false, false, false, false, false, false, false, false, false, false, false, true, false, false] [(59, true)] [71] _ ?A0b (AJ w b a q f f (fun p => (f p).l)) 1 (by kernel_rfl) (by kernel_rfl) (by kernel_rfl) rfl ?S00b (fun j x y h hb => h.up hb) ((Off.refl _ _).put 71 (.int .i64 E) (by simp)) ?lex0b ?gA0b ?do0b ?_
              case S00b =>
                intro x hx
                exact (unhide HS0).up hx
              case lex0b =>
                intro j x hS
                have hcX : ∀ y : Gb x, y.w.cell? ⟨gd, od + i * 3, none⟩ = some (.int .i64 1) := fun y => gb_cell ((unhide HCELL) x hS.ai.be).1 y
                have hcY : ∀ y : Gb x, y.w.cell? ⟨gd, od + i * 3 + 1, none⟩ = some (.int .i64 P) := fun y => gb_cell ((unhide HCELL) x hS.ai.be).2.1 y
                have hcZ : ∀ y : Gb x, y.w.cell? ⟨gd, od + i * 3 + 2, none⟩ = some (.int .i64 s) := fun y => gb_cell ((unhide HCELL) x hS.ai.be).2.2 y
                have hneX := gb_ne x
                clear hS
                simp only [Act.put, List.setIfInBounds_toArray, List.set_cons_succ, List.set_cons_zero]
                dsimp only [restM]
                repeat (go_big_quiet_step (fail))
                refine wpQuiet_nil ?_
                exact rfl
              case gA0b =>
                intro g hg
                simp only [List.mem_singleton] at hg
                subst hg
                rfl
              case do0b =>
                dsimp only [effM]
                refine ⟨?_, trivial⟩
                intro x hS
                have HSx := hide hS
                clear hS
                go_wp2_with fail
                refine (unhide HAD x (unhide HSx)).mono ?_
                rintro e w5 ⟨rfl, hs⟩
                have HSS := hide hs
                clear HSx hs
                go_wp2_with fail
                exact onlyN ⟨rfl, unhide HSS⟩
              intro x hSx
              have HX := hide hSx
              clear hSx HS0 HAD
              go_wp2
              go_roundw
              case rel =>
                have hai := (unhide HX).ai
                rw [if_neg (by decide)] at hai
                exact ⟨i + 1, f, by omega, by omega, by go_num, hai, unhide HK2⟩
              case measure => simp [intOf]; omega
          · have d0 : (kd == 1) = false := by simpa using k1
            have pX : ∀ y : Gb wr, y.w.cell? ⟨gd, od + i * 3, none⟩ = some (.int .i64 kd) := fun y => gb_cell c0 y
            clear c0 c1 c2
            go_wp2_with fail
            refine wp_region_gr (fun x => Below wr.heap.size wr x) (by kernel_rfl) (by kernel_rfl) (gb_start wr) ?_
            have hneZ : Nonempty (Gb wr) := gb_ne wr
            repeat (go_big_quiet_step (fail))
            refine wpQuiet_nil ?_
            rintro wz ⟨xz, rfl⟩
            have HI2 := hide ((unhide HI).up xz.ok)
            generalize xz.w = wz at *
            clear pX HI
            go_wp2
            go_roundw
            case rel => exact ⟨i + 1, f, by omega, by omega, by go_num, unhide HI2, (unhide HK).skip⟩
            case measure => simp [intOf]; omega
        · have hnext : Hid (∃ f, AI w b a q f (fun p => (f p).l) wr ∧ AK f 60) := by
            have hk := unhide HK
            exact ⟨f, unhide HI, hk.fa, by have := hk.ma; omega, fun p hp => Nat.le_trans (hk.le p hp) hi60⟩
          by_cases hlt1 : i < n
          · have q1 : (i : Int) < n := by omega
            have q2 : ¬ (i : Int) < 60 := by omega
            clear HI HK
            obtain ⟨f0, hai0, hak0⟩ := unhide hnext
            have HT0 := hide hai0.at
            have HK0 := hide hak0
            clear hai0 hak0 hnext
            go_wp2
            obtain ⟨w4, rfl⟩ : ∃ x, x = wr := ⟨_, rfl⟩
            go_loopw [9] (fun tv wr => ∃ (t : Nat) (f : Nat → Qu), tv = .int .i64 t ∧ AT w b a q f (fun p => (f p).l) wr ∧ FA f ∧ mA f + t ≤ 3932160) (fun tv _ => 3932161 - (intOf tv).toNat)
            case atStart => exact ⟨0, f0, rfl, unhide HT0, (unhide HK0).fa, by have := (unhide HK0).ma; omega⟩
            case round =>
              obtain ⟨t, f, rfl, hat, hfa, hma⟩ := hrel
              have hpos := mA_pos hfa
              have q5 : (t : Int) < 4200000 := by omega
              have HT := hide hat
              have HF := hide hfa
              have HM := hide hma
              have hC := hide (hat.turn hfa (unhide HQ))
              clear hat hfa hma hpos HT0 HK0
              by_cases hs : someW f 16 = true
              · have hE : turnE f 16 = 0 := if_pos hs
                have HM2 : Hid (mA (turnF f q 16) + ((t + 1 : Nat) : Int) ≤ 3932160) := by
                  have := mA_turn (unhide HF) (unhide HQ) hs
                  have := unhide HM
                  show _ ≤ _
                  omega
                have HF2 := hide (turnF_FA (unhide HF) (unhide HQ)).1
                have HR := hide (sent_rows f q 16)
                have hSl : (sentL f q 16).length ≤ 1600 := sentL_len (fun p hp => ((unhide HF).ok p hp).n) 16 (Nat.le_refl _)
                rw [hE] at hC
                generalize turnF f q 16 = f2 at *
                generalize sentL f q 16 = S at *
                clear hE hs HT HF HM
                go_wp2_with fail
                refine (unhide hC).mono ?_
                rintro e w5 ⟨v, rfl, hst, hat⟩
                obtain ⟨B2, hB2⟩ : ∃ B2, B2 = wr.heap.size := ⟨_, rfl⟩
                rw [← hB2] at hst
                obtain ⟨sa, sc, rfl⟩ := ownSt_shape hst
                generalize hns : S.length = ns at *
                have HNS := hide hns
                have HT5 := hide hat
                have HS5 := hide hst
                clear hst hat hns hC hB2
                go_wp2_with fail
                obtain ⟨w6, rfl⟩ : ∃ x, x = wr := ⟨_, rfl⟩
                go_loopw [12] (fun iv wr => ∃ (i : Nat), i ≤ ns ∧ iv = .int .i64 i ∧ AT w b a q f2 (rs S f2 i) wr ∧ OwnSt wr B2 (.slice sa ns sc) S) (fun iv _ => ns - (intOf iv).toNat)
                case atStart => exact ⟨0, by omega, rfl, unhide HT5, unhide HS5⟩
                case round =>
                  obtain ⟨i, hi, rfl, hat, hst⟩ := hrel
                  by_cases hin : i < ns
                  · have q6 : (i : Int) < ns := by omega
                    have hiL : i < S.length := by rw [unhide HNS]; exact hin
                    obtain ⟨g, cap, hv, _, _⟩ := World.ownsRow.form (show World.ownsRow _ _ _ _ _ _ _ from hst) (by omega)
                    rw [unhide HNS] at hv
                    cases hv
                    obtain ⟨c0, c1⟩ := ownSt_cells hst (unhide HNS) i hiL
                    obtain ⟨p, hp, hp1, hp16⟩ := (unhide HR) S[i] (List.getElem_mem hiL)
                    obtain ⟨⟨r0, s⟩, hrz⟩ : ∃ y, S[i] = y := ⟨_, rfl⟩
                    rw [hrz] at c0 c1 hp
                    dsimp only at c0 c1 hp
                    subst hp
                    obtain ⟨e1, e2⟩ := rs_step (S := S) (i := i) (r := p) (s := s) (by rw [List.getElem?_eq_getElem hiL, hrz]) f2
                    obtain ⟨g2, o2, cc, d0, d1, d2, d3⟩ := hat.row p hp16 e1
                    have hq : Hid (qup (rs S f2 i) p (rs S f2 (i + 1) p) = rs S f2 (i + 1)) := by
                      show _ = _
                      funext k
                      by_cases ek : k = p
                      · subst ek
                        exact qup_same _ _ _
                      · rw [qup_other _ _ _ ek]
                        exact e2 k ek
                    have HROW := hide e1
                    have HT8 := hide hat
                    have HS8 := hide hst
                    clear e1 e2 hrz hat hst hiL HT5 HS5
                    generalize hlr : (rs S f2 (i + 1) p).length = lr at *
                    have HLR := hide hlr
                    clear hlr
                    obtain ⟨n2, hn2⟩ : ∃ n2, n2 = lr + 1 := ⟨_, rfl⟩
                    rw [← hn2] at d0 d2
                    have z0 : ((n2 : Int) == 0) = false := by simp; omega
                    have z1 : 1 ≤ n2 := by omega
                    have HN2 := hide hn2
                    clear hn2
                    have hneZ : Nonempty (Gb wr) := gb_ne wr
                    have p0 : ∀ y : Gb wr, y.w.cell? ⟨g, i * 2, none⟩ = some (.int .i64 p) := fun y => gb_cell c0 y
                    have p1 : ∀ y : Gb wr, y.w.cell? ⟨g, i * 2 + 1, none⟩ = some (.int .i64 s) := fun y => gb_cell c1 y
                    have p2 : ∀ y : Gb wr, y.w.cell? ⟨g2, o2, none⟩ = some (.int .i64 s) := fun y => gb_cell d1 y
                    go_wp2_with fail
                    refine wp_region_grB (by kernel_rfl) (by kernel_rfl) ?_
                    repeat (go_big_quiet_step (fail))
                    refine wpQuiet_nil ?_
                    rintro w5 ⟨x5, rfl⟩
                    have b5 := x5.ok
                    have c0' := gb_cell c0 x5
                    have d0' := gb_cell d0 x5
                    have HT5 := hide ((unhide HT8).up b5)
                    have HS5 := hide (ownSt_keep (unhide HS8) (fun k hk => b5.block k (World.ownsRow.lt (show World.ownsRow _ _ _ _ _ _ _ from unhide HS8) k hk).2))
                    clear p0 p1 p2 c0 c1 d0 d1 HT8 HS8 hneZ b5
                    generalize x5.w = w5 at *
                    go_wp2
                    have hneZ : Nonempty (Gb w5) := gb_ne w5
                    have p0 : ∀ y : Gb w5, y.w.cell? ⟨g, i * 2, none⟩ = some (.int .i64 p) := fun y => gb_cell c0' y
                    refine wp_region_tailB 7 (by kernel_rfl) (by decide) (by kernel_rfl) (by kernel_rfl) ?_
                    dsimp only [List.take, List.drop]
                    repeat (go_big_quiet_step (fail))
                    refine wpQuiet_nil ?_
                    rintro wz ⟨xz, rfl⟩
                    have HT9 := hide ((unhide HT5).up xz.ok)
                    have HS9 := hide (ownSt_keep (unhide HS5) (fun k hk => xz.ok.block k (World.ownsRow.lt (show World.ownsRow _ _ _ _ _ _ _ from unhide HS5) k hk).2))
                    have d4 := gb_cell d0' xz
                    have d5 := (unhide HT9).free p
                    have HNEXT : Hid (∀ o' c', (rs S f2 (i + 1) p ≠ [] → o' = o2 + 1) → lr ≤ c' → c' ≤ maxLen → AT w b a q f2 (rs S f2 (i + 1)) (xz.w.setCell ⟨a, p, none⟩ (.slice (some ⟨g2, o', none⟩) lr c')) ∧ OwnSt (xz.w.setCell ⟨a, p, none⟩ (.slice (some ⟨g2, o', none⟩) lr c')) B2 (.slice (some ⟨g, 0, none⟩) ns sc) S) := by
                      intro o' c' h1 h2 h3
                      have := (unhide HT9).put p hp16 (unhide HROW) d4 o' c' h1 (by rw [unhide HLR]; exact h2) h3
                      rw [unhide hq, unhide HLR] at this
                      exact ⟨this, (unhide HT9).steps (unhide HS9) p⟩
                    clear p0 c0' d0' HT5 HS5 HT9 HS9 HROW hneZ
                    generalize xz.w = wz at *
                    go_wp2
                    have hn3 : n2 - 1 = lr := by have := unhide HN2; omega
                    by_cases hcc : cc = 1
                    · obtain ⟨x1, x2⟩ := (unhide HNEXT) o2 (cc - 1) (fun h => absurd (List.eq_nil_of_length_eq_zero (by rw [unhide HLR]; have := unhide HN2; omega)) h) (by have := unhide HN2; omega) (by omega)
                      rw [if_pos hcc, hn3]
                      go_roundw
                      case rel => exact ⟨i + 1, by omega, by go_num, x1, x2⟩
                      case measure => simp [intOf]; omega
                    · obtain ⟨x1, x2⟩ := (unhide HNEXT) (o2 + 1) (cc - 1) (fun h => rfl) (by have := unhide HN2; omega) (by omega)
                      rw [if_neg hcc, hn3]
                      go_roundw
                      case rel => exact ⟨i + 1, by omega, by go_num, x1, x2⟩
                      case measure => simp [intOf]; omega
                  · have q6 : ¬ (i : Int) < ns := by omega
                    have hii : i = ns := by omega
                    have HT7 : Hid (AT w b a q f2 (fun p => (f2 p).l) wr) := by
                      refine hat.congr (fun p hp => ?_)
                      rw [hii, ← unhide HNS]
                      exact rs_end f2 p
                    clear hat hst hii HS5 HT5
                    go_wp2
                    go_roundw
                    case rel => exact ⟨t + 1, f2, by go_num, unhide HT7, unhide HF2, unhide HM2⟩
                    case measure => have := unhide HM2; have := mA_pos (unhide HF2); simp [intOf]; omega
              · have hE : turnE f 16 = 4 := if_neg hs
                have HN := hide (none_W (unhide HF) hs)
                rw [hE] at hC
                have HN2 : Hid (∀ p, p < 16 → rs (sentL f q 16) (turnF f q 16) 0 p = [] ∧ (turnF f q 16 p).l = [] ∧ (turnF f q 16 p).c = 0) := fun p hp => by
                  have h1 := (unhide HN) p hp
                  have e : turnF f q 16 p = f p := by
                    unfold turnF
                    rw [if_neg (fun h => h.2.2 h1.1)]
                  rw [rs_zero q (unhide HF) p hp, e]
                  exact ⟨h1.1, h1⟩
                generalize turnF f q 16 = f2 at *
                generalize sentL f q 16 = S at *
                clear hE hs HF HM HN
                go_wp2_with fail
                refine (unhide hC).mono ?_
                rintro e w5 ⟨v, rfl, _, hat⟩
                have HT5 := hide hat
                clear hat hC HT
                go_wp2
                obtain ⟨w6, rfl⟩ : ∃ x, x = wr := ⟨_, rfl⟩
                go_loopw [14] (fun pv wr => ∃ (p : Nat), 1 ≤ p ∧ p ≤ 16 ∧ pv = .int .i64 p ∧ AT w b a q f2 (rs S f2 0) wr) (fun pv _ => 16 - (intOf pv).toNat)
                case atStart => exact ⟨1, by omega, by omega, rfl, unhide HT5⟩
                case round =>
                  obtain ⟨p, hp1, hp16, rfl, hat⟩ := hrel
                  by_cases hp : p < 16
                  · have q6 : (p : Int) ≤ 15 := by omega
                    obtain ⟨l1, l2, l3⟩ := (unhide HN2) p hp
                    obtain ⟨a3, c3, d0⟩ := hat.fin p hp l1
                    have hW := hide (hat.waits p hp l2)
                    have hC := hide (hat.credit p hp l3)
                    have HT7 := hide hat
                    clear l1 l2 l3 hat HT5
                    go_wp2_with fail
                    refine (unhide hW).mono ?_
                    rintro e w7 ⟨rfl, rfl⟩
                    go_wp2_with fail
                    refine (unhide hC).mono ?_
                    rintro e w7 ⟨rfl, rfl⟩
                    go_wp2
                    go_roundw
                    case rel => exact ⟨p + 1, by omega, by omega, by go_num, unhide HT7⟩
                    case measure => simp [intOf]; omega
                  · have q6 : ¬ (p : Int) ≤ 15 := by omega
                    have HB7 := hide hat.be
                    clear hat HT5
                    go_wp2
                    go_ret
                    exact ⟨rfl, unhide HB7⟩
          · have q1 : ¬ (i : Int) < n := by omega
            clear HI HK
            obtain ⟨f0, hai0, hak0⟩ := unhide hnext
            have HT0 := hide hai0.at
            have HK0 := hide hak0
            clear hai0 hak0 hnext
            go_wp2
            obtain ⟨w4, rfl⟩ : ∃ x, x = wr := ⟨_, rfl⟩
            go_loopw [9] (fun tv wr => ∃ (t : Nat) (f : Nat → Qu), tv = .int .i64 t ∧ AT w b a q f (fun p => (f p).l) wr ∧ FA f ∧ mA f + t ≤ 3932160) (fun tv _ => 3932161 - (intOf tv).toNat)
            case atStart => exact ⟨0, f0, rfl, unhide HT0, (unhide HK0).fa, by have := (unhide HK0).ma; omega⟩
            case round =>
              obtain ⟨t, f, rfl, hat, hfa, hma⟩ := hrel
              have hpos := mA_pos hfa
              have q5 : (t : Int) < 4200000 := by omega
              have HT := hide hat
              have HF := hide hfa
              have HM := hide hma
              have hC := hide (hat.turn hfa (unhide HQ))
              clear hat hfa hma hpos HT0 HK0
              by_cases hs : someW f 16 = true
              · have hE : turnE f 16 = 0 := if_pos hs
                have HM2 : Hid (mA (turnF f q 16) + ((t + 1 : Nat) : Int) ≤ 3932160) := by
                  have := mA_turn (unhide HF) (unhide HQ) hs
                  have := unhide HM
                  show _ ≤ _
                  omega
                have HF2 := hide (turnF_FA (unhide HF) (unhide HQ)).1
                have HR := hide (sent_rows f q 16)
                have hSl : (sentL f q 16).length ≤ 1600 := sentL_len (fun p hp => ((unhide HF).ok p hp).n) 16 (Nat.le_refl _)
                rw [hE] at hC
                generalize turnF f q 16 = f2 at *
                generalize sentL f q 16 = S at *
                clear hE hs HT HF HM
                go_wp2_with fail
                refine (unhide hC).mono ?_
                rintro e w5 ⟨v, rfl, hst, hat⟩
                obtain ⟨B2, hB2⟩ : ∃ B2, B2 = wr.heap.size := ⟨_, rfl⟩
                rw [← hB2] at hst
                obtain ⟨sa, sc, rfl⟩ := ownSt_shape hst
                generalize hns : S.length = ns at *
                have HNS := hide hns
                have HT5 := hide hat
                have HS5 := hide hst
                clear hst hat hns hC hB2
                go_wp2_with fail
                obtain ⟨w6, rfl⟩ : ∃ x, x = wr := ⟨_, rfl⟩
                go_loopw [12] (fun iv wr => ∃ (i : Nat), i ≤ ns ∧ iv = .int .i64 i ∧ AT w b a q f2 (rs S f2 i) wr ∧ OwnSt wr B2 (.slice sa ns sc) S) (fun iv _ => ns - (intOf iv).toNat)
                case atStart => exact ⟨0, by omega, rfl, unhide HT5, unhide HS5⟩
                case round =>
                  obtain ⟨i, hi, rfl, hat, hst⟩ := hrel
                  by_cases hin : i < ns
                  · have q6 : (i : Int) < ns := by omega
                    have hiL : i < S.length := by rw [unhide HNS]; exact hin
                    obtain ⟨g, cap, hv, _, _⟩ := World.ownsRow.form (show World.ownsRow _ _ _ _ _ _ _ from hst) (by omega)
                    rw [unhide HNS] at hv
                    cases hv
                    obtain ⟨c0, c1⟩ := ownSt_cells hst (unhide HNS) i hiL
                    obtain ⟨p, hp, hp1, hp16⟩ := (unhide HR) S[i] (List.getElem_mem hiL)
                    obtain ⟨⟨r0, s⟩, hrz⟩ : ∃ y, S[i] = y := ⟨_, rfl⟩
                    rw [hrz] at c0 c1 hp
                    dsimp only at c0 c1 hp
                    subst hp
                    obtain ⟨e1, e2⟩ := rs_step (S := S) (i := i) (r := p) (s := s) (by rw [List.getElem?_eq_getElem hiL, hrz]) f2
                    obtain ⟨g2, o2, cc, d0, d1, d2, d3⟩ := hat.row p hp16 e1
                    have hq : Hid (qup (rs S f2 i) p (rs S f2 (i + 1) p) = rs S f2 (i + 1)) := by
                      show _ = _
                      funext k
                      by_cases ek : k = p
                      · subst ek
                        exact qup_same _ _ _
                      · rw [qup_other _ _ _ ek]
                        exact e2 k ek
                    have HROW := hide e1
                    have HT8 := hide hat
                    have HS8 := hide hst
                    clear e1 e2 hrz hat hst hiL HT5 HS5
                    generalize hlr : (rs S f2 (i + 1) p).length = lr at *
                    have HLR := hide hlr
                    clear hlr
                    obtain ⟨n2, hn2⟩ : ∃ n2, n2 = lr + 1 := ⟨_, rfl⟩
                    rw [← hn2] at d0 d2
                    have z0 : ((n2 : Int) == 0) = false := by simp; omega
                    have z1 : 1 ≤ n2 := by omega
                    have HN2 := hide hn2
                    clear hn2
                    have hneZ : Nonempty (Gb wr) := gb_ne wr
                    have p0 : ∀ y : Gb wr, y.w.cell? ⟨g, i * 2, none⟩ = some (.int .i64 p) := fun y => gb_cell c0 y
                    have p1 : ∀ y : Gb wr, y.w.cell? ⟨g, i * 2 + 1, none⟩ = some (.int .i64 s) := fun y => gb_cell c1 y
                    have p2 : ∀ y : Gb wr, y.w.cell? ⟨g2, o2, none⟩ = some (.int .i64 s) := fun y => gb_cell d1 y
                    go_wp2_with fail
                    refine wp_region_grB (by kernel_rfl) (by kernel_rfl) ?_
                    repeat (go_big_quiet_step (fail))
                    refine wpQuiet_nil ?_
                    rintro w5 ⟨x5, rfl⟩
                    have b5 := x5.ok
                    have c0' := gb_cell c0 x5
                    have d0' := gb_cell d0 x5
                    have HT5 := hide ((unhide HT8).up b5)
                    have HS5 := hide (ownSt_keep (unhide HS8) (fun k hk => b5.block k (World.ownsRow.lt (show World.ownsRow _ _ _ _ _ _ _ from unhide HS8) k hk).2))
                    clear p0 p1 p2 c0 c1 d0 d1 HT8 HS8 hneZ b5
                    generalize x5.w = w5 at *
                    go_wp2
                    have hneZ : Nonempty (Gb w5) := gb_ne w5
                    have p0 : ∀ y : Gb w5, y.w.cell? ⟨g, i * 2, none⟩ = some (.int .i64 p) := fun y => gb_cell c0' y
                    refine wp_region_tailB 7 (by kernel_rfl) (by decide) (by kernel_rfl) (by kernel_rfl) ?_
                    dsimp only [List.take, List.drop]
                    repeat (go_big_quiet_step (fail))
                    refine wpQuiet_nil ?_
                    rintro wz ⟨xz, rfl⟩
                    have HT9 := hide ((unhide HT5).up xz.ok)
                    have HS9 := hide (ownSt_keep (unhide HS5) (fun k hk => xz.ok.block k (World.ownsRow.lt (show World.ownsRow _ _ _ _ _ _ _ from unhide HS5) k hk).2))
                    have d4 := gb_cell d0' xz
                    have d5 := (unhide HT9).free p
                    have HNEXT : Hid (∀ o' c', (rs S f2 (i + 1) p ≠ [] → o' = o2 + 1) → lr ≤ c' → c' ≤ maxLen → AT w b a q f2 (rs S f2 (i + 1)) (xz.w.setCell ⟨a, p, none⟩ (.slice (some ⟨g2, o', none⟩) lr c')) ∧ OwnSt (xz.w.setCell ⟨a, p, none⟩ (.slice (some ⟨g2, o', none⟩) lr c')) B2 (.slice (some ⟨g, 0, none⟩) ns sc) S) := by
                      intro o' c' h1 h2 h3
                      have := (unhide HT9).put p hp16 (unhide HROW) d4 o' c' h1 (by rw [unhide HLR]; exact h2) h3
                      rw [unhide hq, unhide HLR] at this
                      exact ⟨this, (unhide HT9).steps (unhide HS9) p⟩
                    clear p0 c0' d0' HT5 HS5 HT9 HS9 HROW hneZ
                    generalize xz.w = wz at *
                    go_wp2
                    have hn3 : n2 - 1 = lr := by have := unhide HN2; omega
                    by_cases hcc : cc = 1
                    · obtain ⟨x1, x2⟩ := (unhide HNEXT) o2 (cc - 1) (fun h => absurd (List.eq_nil_of_length_eq_zero (by rw [unhide HLR]; have := unhide HN2; omega)) h) (by have := unhide HN2; omega) (by omega)
                      rw [if_pos hcc, hn3]
                      go_roundw
                      case rel => exact ⟨i + 1, by omega, by go_num, x1, x2⟩
                      case measure => simp [intOf]; omega
                    · obtain ⟨x1, x2⟩ := (unhide HNEXT) (o2 + 1) (cc - 1) (fun h => rfl) (by have := unhide HN2; omega) (by omega)
                      rw [if_neg hcc, hn3]
                      go_roundw
                      case rel => exact ⟨i + 1, by omega, by go_num, x1, x2⟩
                      case measure => simp [intOf]; omega
                  · have q6 : ¬ (i : Int) < ns := by omega
                    have hii : i = ns := by omega
                    have HT7 : Hid (AT w b a q f2 (fun p => (f2 p).l) wr) := by
                      refine hat.congr (fun p hp => ?_)
                      rw [hii, ← unhide HNS]
                      exact rs_end f2 p
                    clear hat hst hii HS5 HT5
                    go_wp2
                    go_roundw
                    case rel => exact ⟨t + 1, f2, by go_num, unhide HT7, unhide HF2, unhide HM2⟩
                    case measure => have := unhide HM2; have := mA_pos (unhide HF2); simp [intOf]; omega
              · have hE : turnE f 16 = 4 := if_neg hs
                have HN := hide (none_W (unhide HF) hs)
                rw [hE] at hC
                have HN2 : Hid (∀ p, p < 16 → rs (sentL f q 16) (turnF f q 16) 0 p = [] ∧ (turnF f q 16 p).l = [] ∧ (turnF f q 16 p).c = 0) := fun p hp => by
                  have h1 := (unhide HN) p hp
                  have e : turnF f q 16 p = f p := by
                    unfold turnF
                    rw [if_neg (fun h => h.2.2 h1.1)]
                  rw [rs_zero q (unhide HF) p hp, e]
                  exact ⟨h1.1, h1⟩
                generalize turnF f q 16 = f2 at *
                generalize sentL f q 16 = S at *
                clear hE hs HF HM HN
                go_wp2_with fail
                refine (unhide hC).mono ?_
                rintro e w5 ⟨v, rfl, _, hat⟩
                have HT5 := hide hat
                clear hat hC HT
                go_wp2
                obtain ⟨w6, rfl⟩ : ∃ x, x = wr := ⟨_, rfl⟩
                go_loopw [14] (fun pv wr => ∃ (p : Nat), 1 ≤ p ∧ p ≤ 16 ∧ pv = .int .i64 p ∧ AT w b a q f2 (rs S f2 0) wr) (fun pv _ => 16 - (intOf pv).toNat)
                case atStart => exact ⟨1, by omega, by omega, rfl, unhide HT5⟩
                case round =>
                  obtain ⟨p, hp1, hp16, rfl, hat⟩ := hrel
                  by_cases hp : p < 16
                  · have q6 : (p : Int) ≤ 15 := by omega
                    obtain ⟨l1, l2, l3⟩ := (unhide HN2) p hp
                    obtain ⟨a3, c3, d0⟩ := hat.fin p hp l1
                    have hW := hide (hat.waits p hp l2)
                    have hC := hide (hat.credit p hp l3)
                    have HT7 := hide hat
                    clear l1 l2 l3 hat HT5
                    go_wp2_with fail
                    refine (unhide hW).mono ?_
                    rintro e w7 ⟨rfl, rfl⟩
                    go_wp2_with fail
                    refine (unhide hC).mono ?_
                    rintro e w7 ⟨rfl, rfl⟩
                    go_wp2
                    go_roundw
                    case rel => exact ⟨p + 1, by omega, by omega, by go_num, unhide HT7⟩
                    case measure => simp [intOf]; omega
                  · have q6 : ¬ (p : Int) ≤ 15 := by omega
                    have HB7 := hide hat.be
                    clear hat HT5
                    go_wp2
                    go_ret
                    exact ⟨rfl, unhide HB7⟩
end Go.Proofs.Ytpaecblgilepoaa
