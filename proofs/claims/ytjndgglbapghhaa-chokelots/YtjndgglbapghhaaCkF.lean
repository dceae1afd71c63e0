/- choke: the document's small tests; plane.Check; arePeers. -/
import Derived.Test.YtjndgglbapghhaaCkE
import Derived.Outline
namespace Go.Proofs.Ytjndgglbapghhaa
open Go.RowKit
set_option linter.unusedVariables false
attribute [local go_sem] Oper.semAt_some

/-- a peer's number, a time -/
def isPr (n : Int) : Bool := decide (1 ≤ n ∧ n ≤ 15)
set_option maxRecDepth 100000 in
theorem dIsPeer_any (n : Int) (w : World) : Calls Try.prog 34 #[.int .i64 n] w fun e w' => e = .returned (.bool (isPr n)) ∧ w = w' := by
  unfold isPr
  by_cases h1 : 1 ≤ n
  · by_cases h2 : n ≤ 15
    · rw [decide_eq_true (show 1 ≤ n ∧ n ≤ 15 from ⟨h1, h2⟩)]
      go_enter Try.func34, Try.ntmps34
      go_wp2
      go_ret
      exact ⟨rfl, rfl⟩
    · rw [decide_eq_false (show ¬ (1 ≤ n ∧ n ≤ 15) from fun h => h2 h.2)]
      go_enter Try.func34, Try.ntmps34
      go_wp2
      go_ret
      exact ⟨rfl, rfl⟩
  · rw [decide_eq_false (show ¬ (1 ≤ n ∧ n ≤ 15) from fun h => h1 h.1)]
    go_enter Try.func34, Try.ntmps34
    go_wp2
    go_ret
    exact ⟨rfl, rfl⟩
def isPl (x y : Int) : Bool := decide (-1048576 ≤ x ∧ x ≤ 1048576 ∧ -1048576 ≤ y ∧ y ≤ 1048576)
set_option maxRecDepth 100000 in
theorem dCheck_any (x y : Int) (w : World) : Calls Try.prog 33 #[.agg #[.int .i64 x, .int .i64 y]] w fun e w' => e = .returned (.bool (isPl x y)) ∧ Below w.heap.size w w' := by
  unfold isPl
  have B1 := hide ((Below.refl w.heap.size w).alloc (Nat.le_refl _) (.cells #[.int .i64 x, .int .i64 y] 37))
  have go : ∀ b, decide (-1048576 ≤ x ∧ x ≤ 1048576 ∧ -1048576 ≤ y ∧ y ≤ 1048576) = b → Calls Try.prog 33 #[.agg #[.int .i64 x, .int .i64 y]] w fun e w' => e = .returned (.bool b) ∧ Below w.heap.size w w' := by
    intro b hb
    by_cases h1 : -1048576 ≤ x
    · by_cases h2 : x ≤ 1048576
      · by_cases h3 : -1048576 ≤ y
        · by_cases h4 : y ≤ 1048576
          · obtain rfl : b = true := by rw [← hb]; exact decide_eq_true ⟨h1, h2, h3, h4⟩
            clear hb
            go_enter Try.func33, Try.ntmps33
            go_wp2
            go_ret
            exact ⟨rfl, unhide B1⟩
          · obtain rfl : b = false := by rw [← hb]; exact decide_eq_false fun h => h4 h.2.2.2
            clear hb
            go_enter Try.func33, Try.ntmps33
            go_wp2
            go_ret
            exact ⟨rfl, unhide B1⟩
        · obtain rfl : b = false := by rw [← hb]; exact decide_eq_false fun h => h3 h.2.2.1
          clear hb
          go_enter Try.func33, Try.ntmps33
          go_wp2
          go_ret
          exact ⟨rfl, unhide B1⟩
      · obtain rfl : b = false := by rw [← hb]; exact decide_eq_false fun h => h2 h.2.1
        clear hb
        go_enter Try.func33, Try.ntmps33
        go_wp2
        go_ret
        exact ⟨rfl, unhide B1⟩
    · obtain rfl : b = false := by rw [← hb]; exact decide_eq_false fun h => h1 h.1
      clear hb
      go_enter Try.func33, Try.ntmps33
      go_wp2
      go_ret
      exact ⟨rfl, unhide B1⟩
  exact go _ rfl
/-- is a number among these? -/
def hasI (l : List Int) (n : Int) : Bool := l.any fun x => decide (x = n)
set_option maxRecDepth 100000 in
set_option maxHeartbeats 1000000 in
theorem rhas_any (a0 : Option Addr) (l : List Int) (c : Nat) (n : Int) (w : World) (hA : Ints w a0 l) (hl : l.length ≤ maxLen) :
    Calls Try.prog 19 #[.slice a0 l.length c, .int .i64 n] w fun e w' => e = .returned (.bool (hasI l n)) ∧ w = w' := by
  obtain ⟨r, hr⟩ : ∃ r, r = hasI l n := ⟨_, rfl⟩
  rw [← hr]
  have HR := hide hr
  have HA := hide hA
  generalize hm : l.length = m at *
  have HM := hide hm
  have hml : (m : Int) ≤ 9223372036854775807 := by unfold maxLen at hl; omega
  clear hr hA hm hl
  go_enter Try.func19, Try.ntmps19
  go_wp2_with fail
  go_loopw [5] (fun iv wr => ∃ i : Nat, i ≤ m ∧ iv = .int .i64 i ∧ wr = w ∧ ∀ (j : Nat) (d : Int), j < i → l[j]? = some d → d ≠ n) (fun iv _ => m - (intOf iv).toNat)
  case atStart => exact ⟨0, by simp⟩
  case round =>
    obtain ⟨i, hi, rfl, rfl, hno⟩ := hrel
    have HNO := hide hno
    clear hno
    by_cases hlt : i < m
    · have q1 : (i : Int) < m := by omega
      have hil : i < l.length := by rw [unhide HM]; exact hlt
      obtain ⟨g, o, rfl, e0⟩ := unhide HA i hil
      obtain ⟨x, hx⟩ : ∃ x, l[i] = x := ⟨_, rfl⟩
      rw [hx] at e0
      have HX := hide hx
      clear hx
      by_cases hq : x = n
      · subst hq
        have hrt : r = true := by
          rw [unhide HR]
          unfold hasI
          rw [List.any_eq_true]
          exact ⟨x, by rw [← unhide HX]; exact List.getElem_mem hil, by simp⟩
        subst hrt
        clear HR
        go_wp2
        go_ret
        exact ⟨rfl, rfl⟩
      · have d0 : (x == n) = false := by simpa using hq
        go_wp2
        go_roundw
        case rel => exact ⟨i + 1, by omega, by go_num, trivial, fun j d hj hd => by
          by_cases ej : j = i
          · subst ej
            rw [List.getElem?_eq_getElem hil, unhide HX] at hd
            cases hd
            exact hq
          · exact unhide HNO j d (by omega) hd⟩
        case measure => simp [intOf]; omega
    · have q1 : ¬ (i : Int) < m := by omega
      have hrt : r = false := by
        rw [unhide HR]
        unfold hasI
        rw [List.any_eq_false]
        intro x hx
        obtain ⟨j, hj⟩ := List.getElem?_of_mem hx
        have := (List.getElem?_eq_some_iff.1 hj).1
        rw [unhide HM] at this
        simpa using unhide HNO j x (by omega) hj
      subst hrt
      clear HR
      go_wp2
      go_ret
      exact ⟨rfl, rfl⟩
/-- a place as a value -/
def rv (x y : Int) : Value := .agg #[.int .i64 x, .int .i64 y]
def okN (n : Int) : Bool := decide (-1048576 ≤ n ∧ n ≤ 1048576)
/-- whether a place may be -/
def okP (x y : Int) : Bool := okN x && okN y
theorem okP_isPl (x y : Int) : okP x y = isPl x y := by
  unfold okP okN isPl
  by_cases h1 : -1048576 ≤ x <;> by_cases h2 : x ≤ 1048576 <;> by_cases h3 : -1048576 ≤ y <;> by_cases h4 : y ≤ 1048576 <;> simp [h1, h2, h3, h4]
/-- a block of two cells, just made -/
theorem two_new (w : World) (x y : Value) (t : TypeId) : (w.alloc (.cells #[x, y] t)).cell? ⟨w.heap.size, 0, none⟩ = some x ∧ (w.alloc (.cells #[x, y] t)).cell? ⟨w.heap.size, 1, none⟩ = some y := by
  have hb := heap_alloc_new w (.cells #[x, y] t)
  constructor <;> rw [cell_of_row _ _ _ _ _ _ hb] <;> rfl

set_option maxRecDepth 100000 in
theorem ispart_any (n : Int) (w : World) : Calls Try.prog 42 #[.int .i64 n] w fun e w' => e = .returned (.bool (okN n)) ∧ w = w' := by
  by_cases h1 : -1048576 ≤ n
  · by_cases h2 : n ≤ 1048576
    · rw [show okN n = true from decide_eq_true ⟨h1, h2⟩]
      go_enter Try.func42, Try.ntmps42
      go_wp2
      go_ret
      exact ⟨rfl, rfl⟩
    · rw [show okN n = false from decide_eq_false (fun h => h2 h.2)]
      have h3 : decide (n ≤ 1048576) = false := decide_eq_false h2
      go_enter Try.func42, Try.ntmps42
      go_wp2
      go_ret
      exact ⟨rfl, rfl⟩
  · rw [show okN n = false from decide_eq_false (fun h => h1 h.1)]
    have h3 : decide (-1048576 ≤ n) = false := decide_eq_false h1
    go_enter Try.func42, Try.ntmps42
    go_wp2
    go_ret
    exact ⟨rfl, rfl⟩

set_option maxRecDepth 100000 in
theorem check_any (x y : Int) (w : World) : Calls Try.prog 26 #[rv x y] w fun e w' => e = .returned (.bool (okP x y)) ∧ Below w.heap.size w w' := by
  have b0 : Hid (Below w.heap.size w (w.alloc (.cells #[.int .i64 x, .int .i64 y] 24))) := (Below.refl _ _).alloc (Nat.le_refl _) _
  obtain ⟨c0, c1⟩ := two_new w (.int .i64 x) (.int .i64 y) 24
  unfold rv okP
  have hx := hide (fun w => ispart_any x w)
  have hy := hide (fun w => ispart_any y w)
  generalize okN x = A at *
  generalize okN y = B at *
  cases A
  · go_enter Try.func26, Try.ntmps26
    go_wp2_with fail
    refine (unhide hx _).mono ?_
    rintro e w1 ⟨rfl, rfl⟩
    go_wp2_with fail
    go_ret
    exact ⟨rfl, unhide b0⟩
  · go_enter Try.func26, Try.ntmps26
    go_wp2_with fail
    refine (unhide hx _).mono ?_
    rintro e w1 ⟨rfl, rfl⟩
    go_wp2_with fail
    refine (unhide hy _).mono ?_
    rintro e w1 ⟨rfl, rfl⟩
    go_wp2_with fail
    go_ret
    exact ⟨by simp, unhide b0⟩


/-- are these peers, by number, all of places that may be? -/
def arP : Int → List Pr → Bool
  | _, [] => true
  | k, p :: l => !(decide (p.nd < k) || decide (15 < p.nd)) && okP p.x p.y && arP (p.nd + 1) l
set_option maxRecDepth 100000 in
set_option maxHeartbeats 4000000 in
theorem arePeers_any (a0 : Option Addr) (l : List Pr) (c : Nat) (w : World) (hl : PrsAt w a0 l) (hm : l.length ≤ maxLen) :
    Calls Try.prog 27 #[.slice a0 l.length c] w fun e w' => e = .returned (.bool (arP 1 l)) ∧ Below w.heap.size w w' := by
  unfold maxLen at hm
  have HL := hide hl
  obtain ⟨r, hr⟩ : ∃ r, r = arP 1 l := ⟨_, rfl⟩
  rw [← hr]
  have HR := hide hr
  obtain ⟨n, hn⟩ : ∃ n, n = l.length := ⟨_, rfl⟩
  rw [← hn]
  have HN := hide hn
  rw [← hn] at hm
  clear hl hn hr
  go_enter Try.func27, Try.ntmps27
  go_wp2_with fail
  go_loopw [3, 8] (fun lv kv wr => ∃ (k : Nat) (s : Int), k ≤ n ∧ kv = .int .i64 k ∧ lv = .int .i64 s ∧ 1 ≤ s ∧ s ≤ 16 ∧ r = arP s (l.drop k) ∧ Below w.heap.size w wr) (fun _ kv _ => n - (intOf kv).toNat)
  case atStart => exact ⟨0, 1, by omega, rfl, rfl, by omega, by omega, unhide HR, Below.refl _ _⟩
  case round =>
    obtain ⟨k, s, hk, rfl, rfl, hs1, hs2, hrr, hB⟩ := hrel
    have HRR := hide hrr
    have HB := hide hB
    clear hrr hB HR
    by_cases hlt : k < n
    · have hlt' : k < l.length := by rw [← unhide HN]; exact hlt
      obtain ⟨e, he⟩ : ∃ e, e = l[k] := ⟨_, rfl⟩
      obtain ⟨g, o, rfl, hgl, hra⟩ := prs_range (unhide HL) (unhide HB) (i := k) (p := e) (by rw [he]; exact List.getElem?_eq_getElem hlt')
      have HE : Hid (r = (!(decide (e.nd < s) || decide (15 < e.nd)) && okP e.x e.y && arP (e.nd + 1) (l.drop (k + 1)))) := by
        show _ = _
        rw [unhide HRR, List.drop_eq_getElem_cons hlt', ← he]
        rfl
      have q1 : (k : Int) < n := by omega
      clear he hlt' HRR
      obtain ⟨nd, px, py, hv, wa, op, os, se, nw, ra⟩ := e
      dsimp only at HE
      have u0 : wr.cell? ⟨g, o + k * 10, none⟩ = some (.int .i64 nd) := hra 0 _ rfl
      have u1 : wr.cell? ⟨g, o + k * 10 + 1, none⟩ = some (.int .i64 px) := hra 1 _ rfl
      have u2 : wr.cell? ⟨g, o + k * 10 + 2, none⟩ = some (.int .i64 py) := hra 2 _ rfl
      have u3 : wr.cell? ⟨g, o + k * 10 + 3, none⟩ = some (.string hv) := hra 3 _ rfl
      have u4 : wr.cell? ⟨g, o + k * 10 + 4, none⟩ = some (.bool wa) := hra 4 _ rfl
      have u5 : wr.cell? ⟨g, o + k * 10 + 5, none⟩ = some (.bool op) := hra 5 _ rfl
      have u6 : wr.cell? ⟨g, o + k * 10 + 6, none⟩ = some (.bool os) := hra 6 _ rfl
      have u7 : wr.cell? ⟨g, o + k * 10 + 7, none⟩ = some (.int .i64 se) := hra 7 _ rfl
      have u8 : wr.cell? ⟨g, o + k * 10 + 8, none⟩ = some (.int .i64 nw) := hra 8 _ rfl
      have u9 : wr.cell? ⟨g, o + k * 10 + 9, none⟩ = some (.int .i64 ra) := hra 9 _ rfl
      have HZ := hide (heap_alloc_new wr (.cells zP.cl.toArray 48))
      have HG := hide (newPr wr zP ⟨nd, px, py, hv, wa, op, os, se, nw, ra⟩)
      have HI := hide (pr_info ⟨nd, px, py, hv, wa, op, os, se, nw, ra⟩)
      have HA := hide (pr_all ⟨nd, px, py, hv, wa, op, os, se, nw, ra⟩)
      unfold zP Pr.cl at HZ
      unfold Pr.cl at HI HA
      dsimp only at HZ HI HA
      clear hra
      go_wp2_with (refine wpList_store_row_to rfl 48 (.tmp 5) (.tmp 11) rfl wr.heap.size #[.int .i64 nd, .int .i64 px, .int .i64 py, .string hv, .bool wa, .bool op, .bool os, .int .i64 se, .int .i64 nw, .int .i64 ra] rfl rfl 48 _ (unhide HZ) (unhide HI) rfl (unhide HA) (NewPr wr ⟨nd, px, py, hv, wa, op, os, se, nw, ra⟩) (unhide HG) ?_)
      intro w2 h2
      have HB2 := hide ((unhide HB).trans (h2.be.mono (unhide HB).size))
      have hbl := h2.blk
      have x0 : w2.cell? ⟨wr.heap.size, 0, none⟩ = some (.int .i64 nd) := cell_pr hbl 0
      have x1 : w2.cell? ⟨wr.heap.size, 1, none⟩ = some (.int .i64 px) := cell_pr hbl 1
      have x2 : w2.cell? ⟨wr.heap.size, 2, none⟩ = some (.int .i64 py) := cell_pr hbl 2
      have hxl : wr.heap.size < w2.heap.size := lt_of_block hbl
      have HBL := hide hbl
      have hck := hide (check_any px py w2)
      unfold rv at hck
      clear h2 hbl u0 u1 u2 u3 u4 u5 u6 u7 u8 u9 HZ HG HI HA HB
      by_cases h1 : nd < s
      · have e2 : r = false := by rw [unhide HE, decide_eq_true h1]; rfl
        subst e2
        clear HE
        go_wp2
        go_ret
        exact ⟨rfl, unhide HB2⟩
      · by_cases h3 : 15 < nd
        · have e2 : r = false := by rw [unhide HE, decide_eq_true h3, Bool.or_true]; rfl
          subst e2
          clear HE
          go_wp2
          go_ret
          exact ⟨rfl, unhide HB2⟩
        · obtain ⟨b1, hb1⟩ : ∃ b, b = okP px py := ⟨_, rfl⟩
          rw [← hb1] at HE hck
          clear hb1
          go_wp2_with fail
          refine (unhide hck).mono ?_
          rintro e w3 ⟨rfl, b3⟩
          have HB3 := hide ((unhide HB2).trans (b3.mono (unhide HB2).size))
          have hbl3 := (b3.block _ (lt_of_block (unhide HBL))).trans (unhide HBL)
          have x0 : w3.cell? ⟨wr.heap.size, 0, none⟩ = some (.int .i64 nd) := cell_pr hbl3 0
          have hxl : wr.heap.size < w3.heap.size := lt_of_block hbl3
          clear b3 hbl3 HBL HB2
          cases b1 with
          | false =>
            have e2 : r = false := by rw [unhide HE, Bool.and_false]; rfl
            subst e2
            clear HE
            go_wp2
            go_ret
            exact ⟨rfl, unhide HB3⟩
          | true =>
            have HF : Hid (r = arP (nd + 1) (l.drop (k + 1))) := by
              show _ = _
              rw [unhide HE, decide_eq_false (show ¬ nd < s by omega), decide_eq_false (show ¬ 15 < nd by omega)]
              rfl
            clear HE
            go_wp2
            go_roundw
            case rel => exact ⟨k + 1, nd + 1, by omega, by go_num, by go_num, by omega, by omega, unhide HF, unhide HB3⟩
            case measure => simp [intOf]; omega
    · have hkn : k = n := by omega
      have q1 : ¬ (k : Int) < n := by omega
      have e2 : r = true := by
        rw [unhide HRR, hkn, unhide HN, List.drop_length]
        rfl
      subst e2
      clear hkn HRR
      go_wp2
      go_ret
      exact ⟨rfl, unhide HB⟩
end Go.Proofs.Ytjndgglbapghhaa
