/- Contracts of outer: areOf, areAlike, absent; of the deletion of empty texts: present. -/
import Derived.Test.YtkcnihngkmaecaaGreatOuB
import Derived.Test.YtkcnihngkmaecaaGreatBlE
import Derived.Lib.SliceRun
import Derived.Lib.LazyBuf
namespace Go.Proofs.YtkcnihngkmaecaaGreat
open Go.RowKit
set_option linter.unusedVariables false
attribute [local go_sem] Oper.semAt_some

/-- are all blocks of a size? -/
def ofS (ss : List By) (size : Int) : Bool := ss.all fun s => may size && decide ((s.length : Int) = size)
set_option maxHeartbeats 1000000 in
theorem oareOf_any (ss : List By) (a0 : Option Addr) (c : Nat) (size : Int) (w : World) (hT : Txts w a0 ss) (h2 : ss.length ≤ 100000) (h3 : ∀ s ∈ ss, s.length ≤ 100000) :
    Calls Tryz.prog 43 #[.slice a0 ss.length c, .int .i64 size] w fun e w' => e = .returned (.bool (ofS ss size)) ∧ w = w' := by
  obtain ⟨n, hn⟩ : ∃ n, n = ss.length := ⟨_, rfl⟩
  rw [← hn]
  have HN := hide hn
  have hnb : n ≤ 100000 := by omega
  have HT := hide hT
  clear hn hT
  go_enter Tryz.func43, Tryz.ntmps43
  go_wp2
  go_loop [9] (fun i => ∃ k : Nat, k ≤ n ∧ i = .int .i64 k ∧ ofS (ss.take k) size = true) (fun i => n - (intOf i).toNat)
  case atStart => exact ⟨0, Nat.zero_le _, rfl, rfl⟩
  case round =>
    obtain ⟨k, hk, rfl, hok⟩ := hrel
    by_cases hlt : k < n
    · have hlt' : k < ss.length := by rw [← unhide HN]; exact hlt
      have q1 : (k : Int) < (n : Int) := by omega
      obtain ⟨g, o, rfl, c1⟩ := unhide HT k hlt'
      have hi := hide (fun w => is_any ss[k] size w (h3 _ (List.getElem_mem hlt')))
      have HOK : Hid (ofS (ss.take (k + 1)) size = (may size && decide (((ss[k]).length : Int) = size))) := by
        show _ = _
        unfold ofS at hok ⊢
        rw [List.take_succ_eq_append_getElem hlt', List.all_append, hok]
        simp
      have HB : Hid ((may size && decide (((ss[k]).length : Int) = size)) = false → ofS ss size = false) := by
        intro h
        unfold ofS
        rw [List.all_eq_false]
        exact ⟨ss[k], List.getElem_mem hlt', by rw [h]; simp⟩
      generalize (may size && decide (((ss[k]).length : Int) = size)) = b at *
      generalize bs ss[k] = S at *
      cases b with
      | true =>
        go_wp2_with fail
        refine (unhide hi _).mono ?_
        rintro e w1 ⟨rfl, rfl⟩
        go_wp2
        go_round
        case rel => exact ⟨k + 1, by omega, by go_num, unhide HOK⟩
        case measure => simp [intOf]; omega
      | false =>
        have HF := hide (unhide HB rfl)
        go_wp2_with fail
        refine (unhide hi _).mono ?_
        rintro e w1 ⟨rfl, rfl⟩
        go_wp2
        go_ret
        exact ⟨by rw [unhide HF]; rfl, rfl⟩
    · have hke : k = ss.length := by have := unhide HN; omega
      have q1 : ¬ (k : Int) < (n : Int) := by omega
      have HF : Hid (ofS ss size = true) := by show _ = _; rw [hke, List.take_length] at hok; exact hok
      clear hok hke
      go_wp2
      go_ret
      exact ⟨by rw [unhide HF]; rfl, rfl⟩
/-- the number of the first empty text -/
theorem present1_any (s : By) (w : World) : Calls Tryz.prog 61 #[.string (bs s)] w fun e w' => e = .returned (.bool (decide (s = []))) ∧ w = w' := by
  have h : (bs s).toList.isEmpty = decide (s = []) := by
    rw [ByteArray.toList_eq, bs_list]
    cases s <;> rfl
  have H := hide h
  clear h
  generalize bs s = S at *
  go_enter Tryz.func61, Tryz.ntmps61
  go_wp2
  go_ret
  exact ⟨by show Ending.returned (.bool _) = _; rw [unhide H], rfl⟩
def emI (ss : List By) : Option Nat := ss.findIdx? fun s => decide (s = [])
/-- its number, or -1 -/
def emV (ss : List By) : Int := match emI ss with | some k => (k : Int) | none => -1
theorem emI_take (ss : List By) (k : Nat) (hk : k < ss.length) (h : ∀ j (hj : j < k), ss[j] ≠ []) : (ss[k] = [] → emI ss = some k) := by
  intro he
  unfold emI
  rw [List.findIdx?_eq_some_iff_getElem]
  exact ⟨hk, by simp [he], fun j hj => by simp [h j hj]⟩
set_option maxHeartbeats 1000000 in
theorem index_any (ss : List By) (a0 : Option Addr) (c : Nat) (w : World) (hT : Txts w a0 ss) (h2 : ss.length ≤ 100000) :
    Calls Tryz.prog 75 #[.slice a0 ss.length c, .func (.func 61) #[] #[]] w fun e w' => e = .returned (.int .i64 (emV ss)) ∧ w = w' := by
  obtain ⟨n, hn⟩ : ∃ n, n = ss.length := ⟨_, rfl⟩
  rw [← hn]
  have HN := hide hn
  have hnb : n ≤ 100000 := by omega
  have HT := hide hT
  clear hn hT
  go_enter Tryz.func75, Tryz.ntmps75
  go_wp2
  go_loop [8] (fun i => ∃ k : Nat, k ≤ n ∧ i = .int .i64 k ∧ ∀ j (hj : j < ss.length), j < k → ss[j] ≠ []) (fun i => n - (intOf i).toNat)
  case atStart => exact ⟨0, Nat.zero_le _, rfl, fun j _ h => by omega⟩
  case round =>
    obtain ⟨k, hk, rfl, hok⟩ := hrel
    by_cases hlt : k < n
    · have hlt' : k < ss.length := by rw [← unhide HN]; exact hlt
      have q1 : (k : Int) < (n : Int) := by omega
      obtain ⟨g, o, rfl, c1⟩ := unhide HT k hlt'
      have hi := hide (fun w => present1_any ss[k] w)
      have hem := hide (emI_take ss k hlt' (fun j hj => hok j (by omega) hj))
      have HOK := hide hok
      by_cases he : ss[k] = []
      · have HE : Hid (emV ss = (k : Int)) := by show _ = _; unfold emV; rw [unhide hem he]
        rw [decide_eq_true he] at hi
        generalize bs ss[k] = S at *
        clear hok he
        go_wp2_with fail
        refine (unhide hi _).mono ?_
        rintro e w1 ⟨rfl, rfl⟩
        go_wp2
        go_ret
        exact ⟨by rw [unhide HE]; rfl, rfl⟩
      · rw [decide_eq_false he] at hi
        have HE := hide he
        generalize bs ss[k] = S at *
        clear hok he
        go_wp2_with fail
        refine (unhide hi _).mono ?_
        rintro e w1 ⟨rfl, rfl⟩
        go_wp2
        go_round
        case rel =>
          refine ⟨k + 1, by omega, by go_num, fun j hj h => ?_⟩
          by_cases e : j = k
          · subst e; exact unhide HE
          · exact unhide HOK j hj (by omega)
        case measure => simp [intOf]; omega
    · have q1 : ¬ (k : Int) < (n : Int) := by omega
      have HE0 : emI ss = none := by
        unfold emI
        rw [List.findIdx?_eq_none_iff]
        intro x hx
        obtain ⟨j, hj, rfl⟩ := List.getElem_of_mem hx
        have := unhide HN
        simp [hok j hj (by omega)]
      have HE : Hid (emV ss = -1) := by show _ = _; unfold emV; rw [HE0]
      clear hok HE0
      go_wp2
      go_ret
      exact ⟨by rw [unhide HE]; rfl, rfl⟩
/-- the texts that are there -/
def pres (ss : List By) : List By := ss.filter fun s => decide (s ≠ [])
theorem emI_spec (ss : List By) : (emV ss = -1 ∧ pres ss = ss) ∨ ∃ k, k < ss.length ∧ emV ss = (k : Int) ∧ pres (ss.take k) = ss.take k ∧ ∃ h : k < ss.length, ss[k] = [] := by
  unfold emV
  cases h : emI ss with
  | none =>
    refine .inl ⟨rfl, ?_⟩
    unfold emI at h
    rw [List.findIdx?_eq_none_iff] at h
    unfold pres
    rw [List.filter_eq_self]
    intro x hx
    have := h x hx
    simpa using this
  | some k =>
    unfold emI at h
    rw [List.findIdx?_eq_some_iff_getElem] at h
    obtain ⟨h1, h2, h3⟩ := h
    refine .inr ⟨k, h1, rfl, ?_, h1, by simpa using h2⟩
    unfold pres
    rw [List.filter_eq_self]
    intro x hx
    obtain ⟨j, hj, rfl⟩ := List.getElem_of_mem hx
    rw [List.length_take] at hj
    rw [List.getElem_take]
    have := h3 j (by omega)
    simpa using this
theorem pres_len (ss : List By) : (pres ss).length ≤ ss.length := List.length_filter_le _ _
theorem pres_succ (ss : List By) (k : Nat) (h : k < ss.length) : pres (ss.take (k + 1)) = pres (ss.take k) ++ (if ss[k] = [] then [] else [ss[k]]) := by
  unfold pres
  rw [List.take_succ_eq_append_getElem h, List.filter_append]
  congr 1
  by_cases e : ss[k] = []
  · rw [if_pos e]; simp [e]
  · rw [if_neg e]; simp [e]
theorem Tryz.zeroS : ∀ w, (zeroValue 9).run Tryz.prog w = .ok (.string ⟨#[]⟩) w := fun w => by
  simp [zeroValue, go_sem]
  rfl
set_option maxRecDepth 100000 in
set_option maxHeartbeats 2000000 in
theorem delete_own (ss : List By) (base g cap : Nat) (w : World) (hO : OwnS w base (.slice (some ⟨g, 0, none⟩) ss.length cap) ss) (h2 : ss.length ≤ 100000) :
    Calls Tryz.prog 60 #[.slice (some ⟨g, 0, none⟩) ss.length cap, .func (.func 61) #[] #[]] w fun e w' => ∃ c, e = .returned (.slice (some ⟨g, 0, none⟩) (pres ss).length c) ∧ Txts w' (some ⟨g, 0, none⟩) (pres ss) ∧ Below base w w' := by
  obtain ⟨a0, c0, hv, hT, hlc, hcm⟩ := hO.txts
  simp only [Value.slice.injEq, true_and] at hv
  obtain ⟨rfl, rfl⟩ := hv
  have hix := hide (index_any ss (some ⟨g, 0, none⟩) cap w hT h2)
  rcases emI_spec ss with ⟨e1, e2⟩ | ⟨k, hk, e1, e2, hk', e3⟩
  · rw [e1] at hix
    have HT := hide hT
    have HE := hide e2
    clear hT e1 e2 hO
    obtain ⟨n, hn⟩ : ∃ n, n = ss.length := ⟨_, rfl⟩
    rw [← hn] at hix ⊢
    have HN := hide hn
    clear hn
    go_enter Tryz.func60, Tryz.ntmps60
    go_wp2_with fail
    refine (unhide hix).mono ?_
    rintro e w1 ⟨rfl, rfl⟩
    go_wp2
    go_ret
    exact ⟨cap, by rw [unhide HE, ← unhide HN]; rfl, by rw [unhide HE]; exact unhide HT, Below.refl _ _⟩
  · rw [e1] at hix
    obtain ⟨n, hn⟩ : ∃ n, n = ss.length := ⟨_, rfl⟩
    have HN := hide hn
    have hkn : k < n := by rw [hn]; exact hk
    have hnb : n ≤ 100000 := by omega
    have hst : pres (ss.take (k + 1)) = ss.take k := by rw [pres_succ ss k hk, if_pos e3, e2, List.append_nil]
    have hO0 : w.ownsRow base 9 1 (.slice (some ⟨g, 0, none⟩) n cap) n (sc (pres (ss.take (k + 1)) ++ [[]] ++ ss.drop (k + 1))) := by
      have : pres (ss.take (k + 1)) ++ [[]] ++ ss.drop (k + 1) = ss := by
        rw [hst, ← e3, List.append_assoc]
        conv => rhs; rw [← List.take_append_drop k ss, List.drop_eq_getElem_cons hk]
        rfl
      rw [this, hn]
      exact hO
    have hlen0 : (pres (ss.take (k + 1))).length = k := by rw [hst, List.length_take]; omega
    have HO0 := hide hO0
    have HL0 := hide hlen0
    rw [← hn] at hix ⊢
    rw [← hn] at hlc
    clear hT hO hst hO0 hlen0 e1 e2 hn
    have kz : ((k : Int) == -1) = false := by simp
    have hp1 := hide present1_any
    go_enter Tryz.func60, Tryz.ntmps60
    go_wp2_with fail
    refine (unhide hix).mono ?_
    rintro e w1 ⟨rfl, rfl⟩
    go_wp2_with fail
    go_loopw [5, 6, 7] (fun iv jv _ wr => ∃ (j : Nat) (M : List By), j ≤ n ∧ jv = .int .i64 j ∧ iv = .int .i64 ((pres (ss.take j)).length : Int) ∧ (pres (ss.take j)).length + M.length = j ∧ 1 ≤ M.length ∧ wr.ownsRow base 9 1 (.slice (some ⟨g, 0, none⟩) n cap) n (sc (pres (ss.take j) ++ M ++ ss.drop j)) ∧ Below base w wr) (fun _ jv _ _ => n - (intOf jv).toNat)
    case atStart => exact ⟨k + 1, [[]], by omega, by go_num, by rw [unhide HL0], by rw [unhide HL0]; rfl, Nat.le_refl _, unhide HO0, Below.refl _ _⟩
    case round =>
      clear HO0 HL0
      obtain ⟨j, M, hjn, rfl, rfl, hFM, hM, hown, hB⟩ := hrel
      by_cases hlt : j < n
      · have hlt' : j < ss.length := by rw [← unhide HN]; exact hlt
        have q1 : (j : Int) < (n : Int) := by omega
        have hdj : ss.drop j = ss[j] :: ss.drop (j + 1) := List.drop_eq_getElem_cons hlt'
        have hcell : wr.cell? ⟨g, j, none⟩ = some (.string (bs ss[j])) := by
          refine (hown.cellAt j (by simp; omega)).trans ?_
          rw [sc, List.getElem?_map, List.getElem?_append_right (by rw [List.length_append]; omega), List.length_append, show j - ((pres (ss.take j)).length + M.length) = 0 by omega, hdj]
          rfl
        have hpj := hide (fun w => unhide hp1 ss[j] w)
        have HSU := hide (pres_succ ss j hlt')
        generalize hF : pres (ss.take j) = F at *
        have HF := hide hF
        clear hF
        by_cases he : ss[j] = []
        · rw [decide_eq_true he] at hpj
          have HE := hide he
          have hL2 : F ++ M ++ ss.drop j = F ++ (M ++ [[]]) ++ ss.drop (j + 1) := by rw [hdj, he]; simp
          rw [hL2] at hown
          have HO := hide hown
          have HB := hide hB
          have hsu := unhide HSU
          rw [if_pos he, List.append_nil] at hsu
          have HSU2 := hide hsu
          generalize bs ss[j] = S at *
          clear hown hB hL2 hdj he hsu
          go_wp2_with fail
          refine (unhide hpj _).mono ?_
          rintro e w2 ⟨rfl, rfl⟩
          go_wp2
          go_roundw
          case rel => exact ⟨j + 1, M ++ [[]], by omega, by go_num, by rw [unhide HSU2], by rw [unhide HSU2, List.length_append]; simp; omega, by simp, by rw [unhide HSU2]; exact unhide HO, unhide HB⟩
          case measure => simp [intOf]; omega
        · rw [decide_eq_false he] at hpj
          have hsu := unhide HSU
          rw [if_neg he] at hsu
          obtain ⟨mm, M', rfl⟩ : ∃ mm M', M = mm :: M' := by
            cases M with
            | nil => simp at hM
            | cons a b => exact ⟨a, b, rfl⟩
          have hfi : F.length < n := by simp at hFM; omega
          have q2 : (F.length : Int) < (n : Int) := by omega
          have hst := (hown.stored F.length (.string (bs ss[j]))).1
          have hfz := hown.frozenAt F.length
          obtain ⟨y, hce⟩ : ∃ y, wr.cell? ⟨g, F.length, none⟩ = some y := ⟨_, (hown.cellAt F.length (by simp; omega)).trans (by
            rw [sc, List.getElem?_map, List.append_assoc, List.getElem?_append_right (Nat.le_refl _)]
            simp; rfl)⟩
          have hset : (sc (F ++ (mm :: M') ++ ss.drop j)).set F.length (.string (bs ss[j])) = sc ((F ++ [ss[j]]) ++ (M' ++ [ss[j]]) ++ ss.drop (j + 1)) := by
            rw [hdj]
            simp [sc]
          rw [hset] at hst
          have HST := hide hst
          have hgb : base ≤ g := (hown.lt g rfl).1
          have HB2 := hide (hB.setCell (p := ⟨g, F.length, none⟩) hgb (.string (bs ss[j])))
          have HSU2 := hide hsu
          generalize hSS : bs ss[j] = S at *
          clear hown hB hst hset hdj he hsu hSS
          go_wp2_with fail
          refine (unhide hpj _).mono ?_
          rintro e w2 ⟨rfl, rfl⟩
          go_wp2
          go_roundw
          case rel => exact ⟨j + 1, M' ++ [ss[j]], by omega, by go_num, by rw [unhide HSU2, List.length_append]; go_num, by rw [unhide HSU2, List.length_append, List.length_append]; simp at hFM ⊢; omega, by simp, by rw [unhide HSU2]; exact unhide HST, unhide HB2⟩
          case measure => simp [intOf]; omega
      · have hje : j = ss.length := by have := unhide HN; omega
        have q1 : ¬ (j : Int) < (n : Int) := by omega
        have hF : pres (ss.take j) = pres ss := by rw [hje, List.take_length]
        rw [hF] at hFM hown ⊢
        rw [show ss.drop j = [] by rw [hje]; simp, List.append_nil] at hown
        have hgb : base ≤ g := (hown.lt g rfl).1
        have hcell : ∀ x, x < n → wr.cell? ⟨g, x, none⟩ = (sc (pres ss ++ M))[x]? := fun x hx => hown.cellAt x (by simp; omega)
        have hml : n - (pres ss).length = M.length := by omega
        have hcl : ∀ ty c, (Builtin.clear_ #[41] ty #[.slice (some ⟨g, (pres ss).length, none⟩) (n - (pres ss).length) c]).run Tryz.prog wr = .ok (.tuple #[]) (wr.setCells g (pres ss).length (List.replicate (n - (pres ss).length) (.string ⟨#[]⟩))) := fun ty c =>
          Lib.run_clear_slice wr 41 9 ty (.string ⟨#[]⟩) Tryz.undS Tryz.zeroS rfl rfl g (pres ss).length (n - (pres ss).length) c (by omega) (fun x hx => by
            rw [hcell ((pres ss).length + x) (by omega), sc_get _ _ (by rw [List.length_append]; omega)]; rfl) (fun x hx => hown.frozenAt _)
        have HTX : Hid (Txts (wr.setCells g (pres ss).length (List.replicate (n - (pres ss).length) (.string ⟨#[]⟩))) (some ⟨g, 0, none⟩) (pres ss)) := fun x hx => by
          refine ⟨g, 0, rfl, ?_⟩
          rw [World.cell?_setCells_out _ _ _ _ _ (fun _ _ => .inl (by show 0 + x < _; omega)), Nat.zero_add, hcell x (by omega), sc_append, List.getElem?_append_left (by rw [sc_length]; exact hx), sc_get _ _ hx]
        have HBX := hide (Go.below_setCells hgb (List.replicate (n - (pres ss).length) (.string ⟨#[]⟩)) (pres ss).length wr hB)
        have hple : (pres ss).length ≤ n := by omega
        have hplc : ¬ (pres ss).length = cap := by omega
        have hplc2 : ¬ cap = (pres ss).length := by omega
        have hplc3 : ((pres ss).length == cap) = false := by simpa using hplc
        have hplc4 : (pres ss).length < cap := by omega
        have q3 : ((pres ss).length : Int) ≤ (n : Int) := by omega
        clear hown hB hcell hF hml hFM
        generalize hpl : (pres ss).length = pl at *
        have HPL := hide hpl
        clear hpl
        generalize hWX : wr.setCells g pl (List.replicate (n - pl) (.string ⟨#[]⟩)) = WX at *
        have q4 : (n : Int) ≤ (cap : Int) := by omega
        go_wp2
        go_ret
        first | exact ⟨_, by rw [unhide HPL]; rfl, unhide HTX, unhide HBX⟩ | exact ⟨⟨_, by rw [unhide HPL]; rfl⟩, unhide HTX, unhide HBX⟩
theorem sc_vals (ss : List By) : sc ss = (ss.map fun s => bs s).map Value.string := by simp [sc]
theorem clone_any (ss : List By) (a0 : Option Addr) (c : Nat) (w : World) (hT : Txts w a0 ss) (h2 : ss.length ≤ 100000) :
    Calls Tryz.prog 36 #[.slice a0 ss.length c] w fun e w' => ∃ v, e = .returned v ∧ OwnS w' w.heap.size v ss ∧ Below w.heap.size w w' := by
  cases ss with
  | nil =>
    cases a0 with
    | none =>
      refine (Tryz.slices_Clone_string_nil 0 c w).mono ?_
      rintro e w' ⟨rfl, rfl⟩
      exact ⟨_, rfl, World.ownsRow_nil _ _ _ _, Below.refl _ _⟩
    | some a =>
      refine (Tryz.slices_Clone_string_zero a c w).mono ?_
      rintro e w' ⟨v, rfl, h1, _, h3⟩
      exact ⟨v, rfl, h1, h3⟩
  | cons s r =>
    obtain ⟨g, o, rfl, _⟩ := hT 0 (by simp)
    refine (Tryz.slices_Clone_string g o (s :: r).length c ((s :: r).map fun s => bs s) w (by simp) (by simp at h2 ⊢; omega) (fun j hj => ?_)).mono ?_
    · have hj' : j < (s :: r).length := by simpa using hj
      obtain ⟨g', o', h, hc⟩ := hT j hj'
      simp only [Option.some.injEq, Addr.mk.injEq, and_true] at h
      obtain ⟨rfl, rfl⟩ := h
      rw [hc]
      congr 2
      rw [List.getD_eq_getElem?_getD, List.getElem?_map, List.getElem?_eq_getElem hj']
      rfl
    · rintro e w' ⟨v, rfl, h1, _, h3⟩
      refine ⟨v, rfl, ?_, h3⟩
      unfold OwnS
      rw [sc_vals]
      rw [List.take_of_length_le (by simp)] at h1
      exact h1
theorem delete_nil (w : World) : Calls Tryz.prog 60 #[.slice none 0 0, .func (.func 61) #[] #[]] w fun e w' => e = .returned (.slice none 0 0) ∧ w = w' := by
  have hix := hide (index_any [] none 0 w (fun i hi => absurd hi (by simp)) (by simp))
  rw [show emV [] = -1 from rfl, show ([] : List By).length = 0 from rfl] at hix
  go_enter Tryz.func60, Tryz.ntmps60
  go_wp2_with fail
  refine (unhide hix).mono ?_
  rintro e w1 ⟨rfl, rfl⟩
  go_wp2
  go_ret
  exact ⟨rfl, rfl⟩
theorem present_any (ss : List By) (a0 : Option Addr) (c : Nat) (w : World) (hT : Txts w a0 ss) (h2 : ss.length ≤ 100000) :
    Calls Tryz.prog 42 #[.slice a0 ss.length c] w fun e w' => ∃ b0 d, e = .returned (.slice b0 (pres ss).length d) ∧ Txts w' b0 (pres ss) ∧ Below w.heap.size w w' := by
  have hc := hide (clone_any ss a0 c w hT h2)
  have hd := hide (fun base g cap w hO => delete_own ss base g cap w hO h2)
  have hix := hide (fun d w => index_any [] none d w (fun i hi => absurd hi (by simp)) (by simp))
  have HP : Hid (ss = [] → pres ss = []) := by rintro rfl; rfl
  obtain ⟨n, hn⟩ : ∃ n, n = ss.length := ⟨_, rfl⟩
  rw [← hn] at hc hd ⊢
  have HN := hide hn
  clear hT hn
  go_enter Tryz.func42, Tryz.ntmps42
  go_wp2_with fail
  refine (unhide hc).mono ?_
  rintro e w1 ⟨v, rfl, hO, b1⟩
  have HB1 := hide b1
  rcases hO.2 with ⟨rfl, h0⟩ | ⟨g, cap, cur, rfl, _⟩
  · have hs0 : ss = [] := List.length_eq_zero_iff.1 h0
    have hdn := hide (delete_nil w1)
    clear b1 hO
    go_wp2_with fail
    refine (unhide hdn).mono ?_
    rintro e w2 ⟨rfl, rfl⟩
    have HPE := hide (unhide HP hs0)
    clear h0
    go_wp2
    go_ret
    exact ⟨none, 0, by rw [unhide HPE]; rfl, by rw [unhide HPE]; exact fun i hi => absurd hi (by simp), unhide HB1⟩
  · rw [← unhide HN] at hO ⊢
    have hdd := hide (unhide hd w.heap.size g cap w1 hO)
    clear b1 hO
    go_wp2_with fail
    refine (unhide hdd).mono ?_
    rintro e w2 ⟨d, rfl, hT2, b2⟩
    have HT2 := hide hT2
    have HB2 := hide ((unhide HB1).trans b2)
    clear hT2 b2
    generalize hpl : (pres ss).length = pl at *
    have HPL := hide hpl
    clear hpl
    go_wp2
    go_ret
    exact ⟨_, _, by rw [unhide HPL]; rfl, unhide HT2, unhide HB2⟩
end Go.Proofs.YtkcnihngkmaecaaGreat
