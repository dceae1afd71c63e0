/- meter: Turn, of all that wait. -/
import Derived.Test.YtlmmincpjflkdaaMeE
import Derived.Lib.AppendStr
namespace Go.Proofs.Ytlmmincpjflkdaa
open Go.RowKit
set_option linter.unusedVariables false
attribute [local go_sem] Oper.semAt_some

/-- the steps' row grows, the share stays -/
theorem TSt.grow {w : World} {B b : Nat} {q : Int} {F : Nat → Qu} {V V1 : Nat → Value} {p : Nat} {L : List Int} {v v' : Value} {l l' : List (Int × Int)} {j : Nat} {x y : World} (h : TSt w B b q F V V1 p L v l j x)
    (hg : x.grownBy y v.ownBlock) (ho : OwnSt y w.heap.size v' l') : TSt w B b q F V V1 p L v' l' j y := by
  obtain ⟨V2, h1, h2, h3⟩ := h.ex
  have hne : ∀ (k : Nat) (cs : Array Value) (T : TypeId), x.heap[k]? = some (Obj.cells cs T (0, 0)) → T ≠ 56 → y.heap[k]? = x.heap[k]? := fun k cs T hk hT =>
    hg.block k (lt_of_block hk) (fun e => ownSt_notB h.st hk hT e.symm)
  refine ⟨⟨V2, ?_, ?_, h3⟩, ?_, ho⟩
  · obtain ⟨cs, hc⟩ := h1.blk
    refine h1.keep (hne _ _ _ hc (by decide)) (fun p k hp e => ?_)
    obtain ⟨cs2, hc2⟩ := own_blk (h1.own p hp) e
    exact hne _ _ _ hc2 (by decide)
  · refine ⟨hg.os.trans h2.os, hg.tape.trans h2.tape, hg.output.trans h2.output, Nat.le_trans h2.size hg.size, fun k hk hn hv => (hg.block k (Nat.lt_of_lt_of_le hk h2.size) (fun e => ?_)).trans (h2.block k hk hn hv), h2.new⟩
    have := (World.ownsRow.lt (show World.ownsRow _ _ _ _ _ _ _ from h.st) k e.symm).1
    omega
  · refine ownI_keep h.own (fun k e => ?_)
    obtain ⟨cs2, hc2⟩ := own_blk h.own e
    exact hne _ _ _ hc2 (by decide)
theorem TSt.alloc {w : World} {B b : Nat} {q : Int} {F : Nat → Qu} {V V1 : Nat → Value} {p : Nat} {L : List Int} {v : Value} {l : List (Int × Int)} {j : Nat} {x : World} (h : TSt w B b q F V V1 p L v l j x) (o : Obj) : TSt w B b q F V V1 p L v l j (x.alloc o) :=
  h.up ((Below.refl _ _).alloc (Nat.le_refl _) o)
theorem TSt.done {w : World} {B b : Nat} {q : Int} {F : Nat → Qu} {V V1 : Nat → Value} {p : Nat} {L : List Int} {v : Value} {l : List (Int × Int)} {x : World} (h : TSt w B b q F V V1 p L v l 1 x) : TurnR w B b q (qup F p (turnQ (F p) q)) V v l x := by
  obtain ⟨V2, h1, h2, h3⟩ := h.ex
  exact ⟨h.st, V2, by rw [if_neg (by decide)] at h1; exact h1, h2⟩
theorem TSt.sh0 {w : World} {B b : Nat} {q : Int} {F : Nat → Qu} {V V1 : Nat → Value} {p : Nat} {L : List Int} {v : Value} {l : List (Int × Int)} {x : World} (h : TSt w B b q F V V1 p L v l 0 x) : ShAt x B b q F V1 := by
  obtain ⟨V2, h1, h2, h3⟩ := h.ex
  rw [if_pos rfl] at h1
  rw [← h3 rfl]
  exact h1
theorem ownSt_shape {w : World} {B : Nat} {v : Value} {l : List (Int × Int)} (h : OwnSt w B v l) : ∃ a0 c, v = .slice a0 l.length c := by
  rcases h.2 with ⟨h1, h2⟩ | ⟨g, cap, cur, h1, _⟩
  · exact ⟨none, 0, by rw [h1, h2]⟩
  · exact ⟨_, _, h1⟩

set_option maxRecDepth 100000 in
set_option maxHeartbeats 4000000 in
theorem turns_any (B b : Nat) (q : Int) (f : Nat → Qu) (V : Nat → Value) (w : World) (hS : ShAt w B b q f V) (hq : 1 ≤ q ∧ q ≤ 65536) (hok : ∀ p, p < 16 → QOk (f p)) :
    Calls Try.prog 11 #[.pointer (some ⟨b, 0, none⟩)] w fun e w' => ∃ v, e = .returned (.tuple #[v, .int .i64 (turnE f 16)]) ∧ TurnR w B b q (turnF f q 16) V v (sentL f q 16) w' := by
  have HS := hide hS
  have HK := hide hok
  obtain ⟨i0, hi, hz0, hz1, hz2⟩ := info_parts Try.infoSt
  have hf0 : Hid (turnF f q 0 = f) := by
    show _ = _
    funext p
    unfold turnF
    rw [if_neg (by omega)]
  have hfin : Hid (∀ (k : Nat) (z : Int), 16 ≤ k → k ≤ 16 → z = turnE f k → z = turnE f 16) := by
    intro k z h1 h2 h3
    rw [show k = 16 by omega] at h3
    exact h3
  generalize turnE f 16 = E16 at *
  clear hS hok
  go_enter Try.func11, Try.ntmps11
  go_wp2_with fail
  go_loopw [2, 3, 9] (fun sv ev iv wr => ∃ (k : Nat) (z : Int), k ≤ 16 ∧ ev = .int .i64 z ∧ z = turnE f k ∧ iv = .int .i64 k ∧ TurnR w B b q (turnF f q k) V sv (sentL f q k) wr) (fun _ _ iv _ => 16 - (intOf iv).toNat)
  case atStart => exact ⟨0, 4, by omega, rfl, rfl, rfl, World.ownsRow_nil _ _ _ _, V, by rw [unhide hf0]; exact unhide HS, ShStep.refl _ _ _⟩
  case round =>
    obtain ⟨k, z, hk, rfl, hz, rfl, hR⟩ := hrel
    obtain ⟨V1, hS1, hT1⟩ := hR.sh
    obtain ⟨sa, sc, rfl⟩ := ownSt_shape hR.st
    have HR := hide hR
    have HZ := hide hz
    clear hR hz
    by_cases hlt : k < 16
    · have q1 : (k : Int) < 16 := by omega
      have hwt := hide (waits_any B b k q (turnF f q k) V1 wr hS1)
      by_cases hy : 1 ≤ k ∧ (f k).l ≠ []
      · have hwn : Hid (waitsN (turnF f q k) k = ((f k).l.length : Int)) := by
          show _ = _
          unfold waitsN
          rw [if_pos (by omega), Int.toNat_natCast, turnF_at]
        rw [unhide hwn] at hwt
        have hQ := unhide HK k hlt
        obtain ⟨a0, cap, hV0⟩ := (hS1.own k hlt).slice
        rw [turnF_at] at hV0
        obtain ⟨g, cap', hV1⟩ : ∃ g cap', V1 k = .slice (some ⟨g, 0, none⟩) (f k).l.length cap' := by
          have ho := hS1.own k hlt
          rw [turnF_at] at ho
          obtain ⟨g, cap', h1, _⟩ := World.ownsRow.form (show World.ownsRow _ _ _ _ _ _ _ from ho) (by cases hl : (f k).l with | nil => exact absurd hl hy.2 | cons x l => simp)
          exact ⟨g, cap', h1⟩
        have HO : Hid (OwnI wr B (V1 k) (f k).l) := by
          have ho := hS1.own k hlt
          rw [turnF_at] at ho
          exact ho
        have hLl : (f k).l.length ≠ 0 := by
          intro h
          exact hy.2 (List.eq_nil_of_length_eq_zero h)
        have hcall : Hid (∀ x, ShAt x B b q (turnF f q k) V1 → Calls Try.prog 19 #[.pointer (some ⟨b, 1 + k * 3, none⟩), .int .i64 q] x fun e w' => e = .returned (.slice (some ⟨g, 0, none⟩) (tn (cr0 (f k) q) (f k).l) cap') ∧ OwnI w' B (V1 k) (f k).l ∧ ∃ V', ShAt w' B b q (qup (turnF f q k) k (turnQ (turnF f q k k) q)) V' ∧ ShStep x w' b V1 V') := by
          intro x hx
          rw [turnF_at]
          exact turn_any B b k g cap' (f k).l.length q q (f k).w (f k).c (f k).l (turnF f q k) V1 x hx hlt (turnF_at f q k) rfl hV1 hq hQ.w hQ.c hQ.n hQ.s
        have hst0 : Hid (TSt w B b q (turnF f q k) V V1 k (f k).l (.slice sa (sentL f q k).length sc) (sentL f q k) 0 wr) :=
          ⟨⟨V1, by rw [if_pos rfl]; exact hS1, hT1, fun _ => rfl⟩, unhide HO, (unhide HR).st⟩
        have hnext : Hid (turnF f q (k + 1) = qup (turnF f q k) k (turnQ (turnF f q k k) q)) := by
          show _ = _
          rw [turnF_at]
          exact turnF_yes hy
        have hsp : Hid (sentL f q (k + 1) = sentL f q k ++ ((f k).l.take (tn (cr0 (f k) q) (f k).l)).map (fun s => ((k : Int), s))) := by
          show _ = _
          rw [sentL_succ, sentP_yes hy.1]
        have hse : Hid ((0 : Int) = turnE f (k + 1)) := by
          show _ = _
          unfold turnE
          rw [someW_succ, decide_eq_true hy, Bool.or_true, if_pos rfl]
        have hKl : tn (cr0 (f k) q) (f k).l ≤ (f k).l.length := tn_le _ _
        have hn100 := hQ.n
        have hsl : (sentL f q k).length ≤ 1600 := Nat.le_trans (sentL_len (fun p hp => (unhide HK p hp).n) k hk) (by omega)
        have HV1 := hide hV1
        clear hwn hV0 HO hQ hV1 hy
        generalize hm : (f k).l.length = n at *
        generalize hKK : tn (cr0 (f k) q) (f k).l = K at *
        generalize hss : (sentL f q k).length = ns at *
        have HM := hide hm
        have HKK := hide hKK
        have HSS := hide hss
        have z0 : ((n : Int) == 0) = false := by simp; omega
        clear hm hKK hss hS1 hT1
        go_wp2_with fail
        refine (unhide hwt).mono ?_
        rintro e w1 ⟨rfl, rfl⟩
        go_wp2_with fail
        refine wp_region_do [false, false, false, false, false, false, false, false, false, true, false, false] [] [25] _ ?A0 (TSt w B b q (turnF f q k) V V1 k (f k).l (.slice sa ns sc) (sentL f q k)) 1 (by kernel_rfl) (by kernel_rfl) (by kernel_rfl) rfl ?S00 (fun j x y h hb => h.up hb) ((Off.refl _ _).put 25 (.slice (some ⟨g, 0, none⟩) K cap') (by simp)) ?lex0 (by simp) ?do0 ?_
        case S00 =>
          intro x hx
          exact (unhide hst0).up hx
        case lex0 =>
          intro j x hS
          have hcX : ∀ y : Gb x, y.w.cell? ⟨b, 0, none⟩ = some (.int .i64 q) := fun y => gb_cell hS.c0 y
          have hneX := gb_ne x
          clear hS
          simp only [Act.put, List.setIfInBounds_toArray, List.set_cons_succ, List.set_cons_zero]
          dsimp only [restM]
          repeat (go_big_quiet_step (fail))
          refine wpQuiet_nil ?_
          exact rfl
        case do0 =>
          dsimp only [effM]
          refine ⟨?_, trivial⟩
          intro x hS
          have HSx := hide hS
          clear hS
          go_wp2_with fail
          refine (unhide hcall x (unhide HSx).sh0).mono ?_
          rintro e w5 ⟨rfl, ho, hs⟩
          have HSS := hide ((unhide HSx).next ho hs)
          clear HSx ho hs
          go_wp2_with fail
          exact onlyN ⟨rfl, unhide HSS⟩
        intro x hSx
        have HX := hide hSx
        clear hSx hst0 hcall hwt
        go_wp2_with fail
        go_loopw [2, 27] (fun sv jv wr => ∃ (j : Nat) (a : Option Addr) (c : Nat), j ≤ K ∧ jv = .int .i64 j ∧ sv = .slice a (ns + j) c ∧ TSt w B b q (turnF f q k) V V1 k (f k).l sv (sentL f q k ++ ((f k).l.take j).map (fun s => ((k : Int), s))) 1 wr) (fun _ jv _ => K - (intOf jv).toNat)
        case atStart => exact ⟨0, sa, sc, by omega, rfl, rfl, by simpa using unhide HX⟩
        case round =>
          obtain ⟨j, a, c, hj, rfl, rfl, hst⟩ := hrel
          by_cases hjl : j < K
          · have hjn : j < n := by omega
            have hjL : j < (f k).l.length := by rw [unhide HM]; exact hjn
            have hO := hst.own
            rw [unhide HV1] at hO
            have c0 := rowCell hO (unhide HM) j hjL
            obtain ⟨sz, hsz⟩ : ∃ sz, (f k).l[j] = sz := ⟨_, rfl⟩
            rw [hsz] at c0
            have hl2 : Hid (sentL f q k ++ ((f k).l.take (j + 1)).map (fun s => ((k : Int), s)) = (sentL f q k ++ ((f k).l.take j).map (fun s => ((k : Int), s))) ++ [((k : Int), sz)]) := by
              show _ = _
              rw [List.take_succ_eq_append_getElem hjL, List.map_append, ← List.append_assoc, hsz]
              rfl
            generalize hll : sentL f q k ++ ((f k).l.take j).map (fun s => ((k : Int), s)) = ll at *
            have hlen : ll.length = ns + j := by
              rw [← hll, List.length_append, List.length_map, List.length_take, unhide HSS, unhide HM]
              omega
            have HO : Hid (wr.ownsRow w.heap.size 56 2 (.slice a (ns + j) c) (ns + j) (stC ll)) := by
              have := hst.st
              unfold OwnSt at this
              rw [hlen] at this
              exact this
            have HST := hide hst
            have HLEN := hide hlen
            have hwx : w.heap.size ≤ wr.heap.size := by
              obtain ⟨V2, _, h2, _⟩ := hst.ex
              exact h2.size
            have q2 : (j : Int) < K := by omega
            clear hst hlen hO hsz hjL hll
            go_wp2_with (refine wpList_append_lies _ rfl (.tmp 31) (.tmp 35) 39 rfl w.heap.size 56 i0 (.agg #[.int .i64 0, .int .i64 0]) 2 16 Try.undSt hi hz0 hz1 hz2 rfl (by decide) (.slice a (ns + j) c) (ns + j) _ (by rfl) ((unhide HO).alloc _) ⟨wr.heap.size, 0, none⟩ 1 1 [.int .i64 k, .int .i64 sz] (by rfl) (by rfl) (World.news_of_block (heap_alloc_new wr _)) (by intro u hu; simp at hu; rcases hu with rfl | rfl <;> rfl) (by decide) (by unfold maxLen; omega) (by omega) (by simp; omega) _ rfl ?_)
            intro g2 cap2 w4 hown hgrow hat hlt2
            have hown' : OwnSt w4 w.heap.size (.slice (some ⟨g2, 0, none⟩) (ns + j + 1) cap2) (ll ++ [((k : Int), sz)]) := by
              unfold OwnSt
              rw [stC_append, List.length_append, unhide HLEN]
              exact hown
            have HST2 := hide (((unhide HST).alloc (.cells #[.int .i64 k, .int .i64 sz] 56)).grow hgrow hown')
            clear hown hgrow hat hlt2 hown' HST HO
            go_wp2
            go_roundw
            case rel => exact ⟨j + 1, _, _, by omega, by go_num, by rw [Nat.add_assoc], by rw [unhide hl2]; exact unhide HST2⟩
            case measure => simp [intOf]; omega
          · have hjK : j = K := by omega
            have q2 : ¬ (j : Int) < K := by omega
            have HF : Hid (TurnR w B b q (turnF f q (k + 1)) V (.slice a (ns + j) c) (sentL f q (k + 1)) wr) := by
              rw [unhide hnext, unhide hsp, ← hjK]
              exact hst.done
            clear hst
            go_wp2
            go_roundw
            case rel => exact ⟨k + 1, 0, by omega, rfl, unhide hse, by go_num, unhide HF⟩
            case measure => simp [intOf]; omega
      · have hwn : Hid (waitsN (turnF f q k) k = 0) := by
          show _ = _
          unfold waitsN
          split
          · rw [Int.toNat_natCast, turnF_at]
            have : (f k).l = [] := by
              cases hl : (f k).l with
              | nil => rfl
              | cons x l => exact absurd ⟨by omega, by rw [hl]; simp⟩ hy
            rw [this]
            rfl
          · rfl
        rw [unhide hwn] at hwt
        have HF : Hid (TurnR w B b q (turnF f q (k + 1)) V (.slice sa (sentL f q k).length sc) (sentL f q (k + 1)) wr) := by
          rw [turnF_no hy, sentL_succ, sentP_no hy, List.append_nil]
          exact unhide HR
        have HZ2 : Hid (z = turnE f (k + 1)) := by
          show _ = _
          rw [unhide HZ]
          unfold turnE
          rw [someW_succ, decide_eq_false hy, Bool.or_false]
        clear hS1 hT1 HR hwn
        generalize (sentL f q k).length = ns at *
        go_wp2_with fail
        refine (unhide hwt).mono ?_
        rintro e w1 ⟨rfl, rfl⟩
        go_wp2
        go_roundw
        case rel => exact ⟨k + 1, z, by omega, rfl, unhide HZ2, by go_num, unhide HF⟩
        case measure => simp [intOf]; omega
    · have hk16 : k = 16 := by omega
      have q1 : ¬ (k : Int) < 16 := by omega
      have hzz : z = E16 := unhide hfin k z (by omega) hk (unhide HZ)
      have HF : Hid (TurnR w B b q (turnF f q 16) V (.slice sa (sentL f q k).length sc) (sentL f q 16) wr) := by
        have := unhide HR
        rw [hk16] at this ⊢
        exact this
      subst hzz
      clear hS1 hT1 HR hk16
      generalize (sentL f q k).length = ns at *
      go_wp2
      go_ret2
      exact ⟨_, rfl, unhide HF⟩
end Go.Proofs.Ytlmmincpjflkdaa
