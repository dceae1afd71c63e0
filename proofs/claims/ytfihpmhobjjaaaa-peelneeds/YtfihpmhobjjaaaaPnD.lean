/- The document's inRow and Needs. -/
import Derived.Test.YtfihpmhobjjaaaaPnC
import Derived.Test.YtfihpmhobjjaaaaPnM
import Derived.Test.YtfihpmhobjjaaaaPdD
import Derived.Deep.AppendLies
namespace Go.Proofs.Ytfihpmhobjjaaaa
open Go.RowKit
set_option linter.unusedVariables false
attribute [local go_sem] Oper.semAt_some

set_option maxRecDepth 100000 in
set_option maxHeartbeats 1000000 in
theorem dinrow_any (R : List (List Nat)) (i : Nat) (a0 : Option Addr) (c : Nat) (hm : R.length ≤ 400) (hl : ∀ r ∈ R, r.length ≤ 160) (w : World) (hI : RowsC w a0 R) :
    Calls Try.prog 36 #[.slice a0 R.length c, .int .i64 (i : Int)] w fun e w' => e = .returned (.bool (inR R i)) ∧ w = w' := by
  have HI := hide hI
  have HL := hide hl
  generalize hE : inR R i = E at *
  have HE := hide hE
  generalize hL : R.length = m at *
  have HM := hide hL
  clear hI hL hE hl
  go_enter Try.func36, Try.ntmps36
  go_wp2_with fail
  go_loopw [5] (fun v wr => w = wr ∧ ∃ k : Nat, k ≤ m ∧ v = .int .i64 k ∧ ∀ r ∈ R.take k, i ∉ r) (fun v _ => m - (intOf v).toNat)
  case atStart => exact ⟨rfl, 0, by omega, rfl, by simp⟩
  case round =>
    obtain ⟨rfl, k, hk', rfl, ha⟩ := hrel
    by_cases hlt : k < m
    · have hlt' : k < R.length := by rw [unhide HM]; exact hlt
      obtain ⟨g, o, rfl, b, cc, c0, hIk, _⟩ := unhide HI k hlt'
      have hh := ghas_any (zs R[k]) (i : Int) b cc (by have := unhide HL _ (List.getElem_mem hlt'); rw [zs_length]; unfold maxLen; omega) w hIk
      rw [zs_length, mem_zs] at hh
      have HH := hide hh
      have q4 : (k : Int) < m := by omega
      cases hb : inS R[k] i with
      | true =>
        have e2 : E = true := by
          rw [← unhide HE]
          exact inR_of (List.getElem_mem hlt') (by simpa [inS] using hb)
        subst e2
        rw [hb] at HH
        generalize R[k].length = rl at *
        clear ha hIk hlt' hb hh
        go_wp2_with fail
        refine (unhide HH).mono ?_
        rintro e w1 ⟨rfl, rfl⟩
        go_wp2
        go_ret
        exact ⟨rfl, rfl⟩
      | false =>
        have HA2 : Hid (∀ r ∈ R.take (k + 1), i ∉ r) := by
          intro r hr
          rw [List.take_succ_eq_append_getElem hlt', List.mem_append] at hr
          rcases hr with hr | hr
          · exact ha r hr
          · simp at hr; rw [hr]; simpa [inS] using hb
        rw [hb] at HH
        generalize R[k].length = rl at *
        clear ha hIk hlt' hb hh
        go_wp2_with fail
        refine (unhide HH).mono ?_
        rintro e w1 ⟨rfl, rfl⟩
        go_wp2
        go_roundw
        case rel => exact ⟨trivial, k + 1, by omega, by go_num, unhide HA2⟩
        case measure => simp [intOf]; omega
    · have hkm : k = m := by omega
      subst hkm
      have e2 : E = false := by
        rw [← unhide HE]
        rw [List.take_of_length_le (by rw [unhide HM]; exact Nat.le_refl _)] at ha
        unfold inR
        rw [List.any_eq_false]
        intro r hr
        simpa using ha r hr
      subst e2
      have q4 : ¬ (k : Int) < k := by omega
      clear ha
      go_wp2
      go_ret
      exact ⟨rfl, rfl⟩
/-- the first one from k on of which p holds -/
def hdF (n : Nat) (p : Nat → Bool) (k : Nat) : Option Nat := ((List.range' k (n - k)).filter p).head?
def oI : Option Nat → Int
  | some a => (a : Int)
  | none => -1
theorem hdF_end (n : Nat) (p : Nat → Bool) : hdF n p n = none := by simp [hdF]
theorem hdF_step {n k : Nat} (p : Nat → Bool) (h : k < n) : hdF n p k = if p k = true then some k else hdF n p (k + 1) := by
  unfold hdF
  have e : n - k = (n - (k + 1)) + 1 := by omega
  rw [e, List.range'_succ, List.filter_cons]
  cases p k <;> simp
theorem hdF_zero (n : Nat) (p : Nat → Bool) : hdF n p 0 = ((List.range n).filter p).head? := by
  unfold hdF
  rw [List.range_eq_range', Nat.sub_zero]
theorem hdF_nxt {n : Nat} {R : List (List Nat)} {T : Nat → Bool} : nxt n R T = match hdF n (fun i => !inR R i && !T i) 0 with
    | some a => some a
    | none => hdF n (fun i => !T i) 0 := by
  unfold nxt loN unN
  rw [hdF_zero, hdF_zero]
  cases ((List.range n).filter fun i => !inR R i && !T i).head? <;> rfl
theorem hdF_mem {n : Nat} {p : Nat → Bool} {a : Nat} (h : hdF n p 0 = some a) : a < n ∧ p a = true := by
  rw [hdF_zero] at h
  have := List.mem_of_head? h
  rw [List.mem_filter, List.mem_range] at this
  exact this
theorem hdF_both {n : Nat} {R : List (List Nat)} {T : Nat → Bool} (h : hdF n (fun i => !T i) 0 = none) : hdF n (fun i => !inR R i && !T i) 0 = none := by
  rw [hdF_zero, List.head?_eq_none_iff, List.filter_eq_nil_iff] at h ⊢
  intro x hx hq
  refine h x hx ?_
  simp at hq ⊢
  exact hq.2
theorem peel_un {n : Nat} {R : List (List Nat)} (hR : RLt n R) : ∀ (f : Nat) (S : Nat → Bool), (peelF f S R).1.length + un n (peelF f S R).2 ≤ un n S := by
  intro f
  induction f with
  | zero => intro S; simp [peelF]
  | succ f ih =>
    intro S
    cases h : ripe1 S 0 R with
    | none => rw [peelF_none h]; simp
    | some p =>
      obtain ⟨a, b, _⟩ := ripe_num hR h
      have h1 := un_mk a b
      have h2 := ih (mkS S p.2)
      rw [peelF_some h]
      simp only [List.length_cons]
      omega
theorem known_un {n : Nat} {R : List (List Nat)} {K : List Nat} (h : Pl n R K) : K.length + un n (inS K) ≤ n := by
  have hsub : (K ++ (List.range n).filter (fun i => !inS K i)).length ≤ (List.range n).length := by
    refine List.Nodup.length_le_of_subset ?_ ?_
    · rw [List.nodup_append]
      refine ⟨h.kord.imp (fun {a b} hab => by omega), List.nodup_range.filter _, fun a ha b hb e => ?_⟩
      subst e
      rw [List.mem_filter] at hb
      simp [inS, ha] at hb
    · intro a ha
      rcases List.mem_append.1 ha with h' | h'
      · exact List.mem_range.2 (h.klt a h')
      · exact (List.mem_filter.1 h').1
  rw [List.length_append, List.length_range] at hsub
  exact hsub
theorem apart_turn2 {a b : Option Nat} (h : a = none ∨ a ≠ b) : b = none ∨ b ≠ a := by
  cases b with
  | none => exact .inl rfl
  | some y =>
    refine .inr ?_
    rcases h with h | h
    · rw [h]; simp
    · exact fun e => h e.symm
theorem field_peeled1 (x y : Value) (w : World) : Sem.run Try.prog (Instr.field 52 (.agg #[x, y]) 1) w = .ok y w := by kernel_rfl
set_option maxRecDepth 100000 in
set_option maxHeartbeats 2000000 in
theorem dneeds_yes (n : Nat) (R : List (List Nat)) (K : List Nat) (h : Pl n R K) (a0 k0 : Option Addr) (c kc : Nat) (w : World) (hI : RowsC w a0 R) (hK : Ints w k0 (zs K)) :
    Calls Try.prog 21 #[.int .i64 n, .slice a0 R.length c, .slice k0 K.length kc] w fun e w' => ∃ v, e = .returned (.tuple #[v, .int .i64 0]) ∧ w'.ownsRow w.heap.size 3 1 v (needN n R K).length (ic (zs (needN n R K))) ∧ Below w.heap.size w w' := by
  obtain ⟨i0, hi0, hz0, hz1, hz2⟩ := info_parts Try.infoI
  have h160 := h.n160
  have hm := pdmay_any n (R.map zs) (zs K) a0 k0 c kc ⟨by omega, by omega⟩ (by have := h.m400; rw [List.length_map]; unfold maxLen; omega) (fun r hr => by
    obtain ⟨x, hx, rfl⟩ := List.mem_map.1 hr
    have := h.rlen x hx
    rw [zs_length]; unfold maxLen; omega) (by have := h.klen; rw [zs_length]; unfold maxLen; omega) w hI.rowsA hK
  rw [rws_may h.rws, rws_may h.rwsK, List.length_map, zs_length] at hm
  have HM := hide hm
  have HP := hide (fun (W : World) (Kn : List Nat) (b : Option Addr) (d : Nat) (hb : Below w.heap.size w W) (hk : Kn.length ≤ 400) (hi : Ints W b (zs Kn)) => dpeel_gen n R Kn h160 h.m400 h.lt (fun r hr => by have := h.rlen r hr; omega) hk a0 b c d W (hI.below hb) hi)
  have HIR := hide (fun (W : World) (i : Nat) (hb : Below w.heap.size w W) => dinrow_any R i a0 c h.m400 (fun r hr => by have := h.rlen r hr; omega) W (hI.below hb))
  have hku := known_un h
  have HLT : Hid (RLt n R) := h.lt
  have HKK := hide hK
  have HDN := hide (doc_needs h.lt h.nodup K)
  have hkl := h.klen
  generalize hE : needN n R K = E at *
  generalize R.length = m at *
  clear hI hK hm h hE
  generalize hlk : K.length = l at *
  have HLK := hide hlk
  clear hlk
  go_enter Try.func21, Try.ntmps21
  go_wp2_with fail
  refine (unhide HM).mono ?_
  rintro e w1 ⟨rfl, b1⟩
  have B1 := hide b1
  have hp := unhide HP w1 K k0 kc b1 (by rw [unhide HLK]; omega) ((unhide HKK).below b1)
  rw [unhide HLK] at hp
  have HP1 := hide hp
  have hb1s := b1.size
  clear b1 hp
  go_wp2_with fail
  refine (unhide HP1).mono ?_
  rintro e w2 ⟨vL, vK, rfl, D, hL, hKn, hD, hS, b2⟩
  obtain ⟨ka, kcp, rfl⟩ := own_shape2 hKn
  have B2 := hide ((unhide B1).trans (b2.mono hb1s))
  have hN0 : (KD K D).length + un n (inS (KD K D)) ≤ n := by
    rw [KD_len, unhide HLK, hS, hD]
    have := peel_un (unhide HLT) n (inS K)
    omega
  have hE0 : docF n R (n + 1) (inS (KD K D)) = E := by
    rw [hS]
    exact unhide HDN
  have HK0 := hide (own_mono hKn hb1s)
  have HN0 := hide hN0
  have HE0 := hide hE0
  have hb2s := (unhide B2).size
  generalize hKD : KD K D = N0 at *
  generalize hnl : N0.length = nl at *
  have HNL := hide hnl
  clear b2 hL hKn hD hS hN0 hE0 hKD hnl HKK HDN HM HP1
  go_wp2
  rw [field_peeled1]
  go_wp2_with fail
  go_loopw [8, 9, 10] (fun v u x wr => ∃ (s f : Nat) (O Nw : List Nat), s + f = n + 1 ∧ O.length ≤ s ∧ x = .int .i64 s ∧ wr.ownsRow w.heap.size 3 1 v O.length (ic (zs O)) ∧ wr.ownsRow w.heap.size 3 1 u Nw.length (ic (zs Nw)) ∧ (v.ownBlock = none ∨ v.ownBlock ≠ u.ownBlock) ∧ Nw.length + un n (inS Nw) ≤ n ∧ O ++ docF n R f (inS Nw) = E ∧ Below w.heap.size w wr) (fun _ _ x _ => n + 1 - (intOf x).toNat)
  case atStart => exact ⟨0, n + 1, [], N0, by omega, Nat.le_refl _, rfl, World.ownsRow_nil _ _ _ _, by rw [unhide HNL]; exact unhide HK0, .inl rfl, by rw [unhide HNL]; exact unhide HN0, unhide HE0, unhide B2⟩
  case round =>
    clear HK0 HN0 HE0
    obtain ⟨s, f, O, Nw, hsf, hol, rfl, hO, hNw, hap, hnu, hdo, hB⟩ := hrel
    obtain ⟨oa, oc, rfl⟩ := own_shape2 hO
    obtain ⟨na, nc, e0, hiN, _, _⟩ := OwnI.ints (l := zs Nw) (by show World.ownsRow _ _ _ _ _ _ _; rw [zs_length]; exact hNw)
    rw [zs_length] at e0
    subst e0
    have hbs := hB.size
    by_cases hsn : s ≤ n
    · have q1 : (s : Int) ≤ n := by omega
      have HHA : Hid (∀ i : Nat, Calls Try.prog 22 #[.slice na Nw.length nc, .int .i64 (i : Int)] wr fun e w' => e = .returned (.bool (inS Nw i)) ∧ wr = w') := fun i => by
        have := ghas_any (zs Nw) (i : Int) na nc (by rw [zs_length]; unfold maxLen; omega) wr hiN
        rwa [zs_length, mem_zs] at this
      have HIN := hide (fun i => unhide HIR wr i hB)
      have HO := hide hO
      have HNW := hide hNw
      have HAP := hide hap
      have HDO := hide hdo
      have HB := hide hB
      clear hO hNw hap hdo hB hiN
      go_wp2_with fail
      go_loopw [11, 12, 13] (fun v u x wr' => wr = wr' ∧ ∃ k : Nat, k ≤ n ∧ x = .int .i64 ((k : Int) - 1) ∧ v = .int .i64 (oI (hdF n (fun i => !inS Nw i) k)) ∧ u = .int .i64 (oI (hdF n (fun i => !inR R i && !inS Nw i) k))) (fun _ _ x _ => (intOf x + 1).toNat)
      case atStart => exact ⟨rfl, n, Nat.le_refl _, rfl, by rw [hdF_end]; rfl, by rw [hdF_end]; rfl⟩
      case round =>
        obtain ⟨rfl, k, hk, rfl, rfl, rfl⟩ := hrel
        cases k with
        | succ j =>
          have ej : ((j + 1 : Nat) : Int) - 1 = (j : Int) := by omega
          rw [ej]
          have hs1 := hdF_step (n := n) (fun i => !inS Nw i) (show j < n by omega)
          have hs2 := hdF_step (n := n) (fun i => !inR R i && !inS Nw i) (show j < n by omega)
          have hh := hide (unhide HHA j)
          have hr := hide (unhide HIN j)
          have q5 : (0 : Int) ≤ (j : Int) := by omega
          have HS1 := hide hs1
          have HS2 := hide hs2
          clear hs1 hs2 ej
          cases hin : inS Nw j with
          | true =>
            have hh1 : Hid (Calls Try.prog 22 #[.slice na Nw.length nc, .int .i64 (j : Int)] wr fun e w' => e = .returned (.bool true) ∧ wr = w') := by
              have := unhide hh; rw [hin] at this; exact this
            have HS1' : Hid (oI (hdF n (fun i => !inS Nw i) (j + 1)) = oI (hdF n (fun i => !inS Nw i) j)) := by
              show _ = _
              rw [unhide HS1]; simp [hin]
            have HS2' : Hid (oI (hdF n (fun i => !inR R i && !inS Nw i) (j + 1)) = oI (hdF n (fun i => !inR R i && !inS Nw i) j)) := by
              show _ = _
              rw [unhide HS2]; simp [hin]
            clear hh HS1 HS2 hin
            go_wp2_with fail
            refine (unhide hh1).mono ?_
            rintro e w1 ⟨rfl, rfl⟩
            go_wp2
            go_roundw
            case rel => exact ⟨trivial, j, by omega, by go_num, by rw [unhide HS1'], by rw [unhide HS2']⟩
            case measure => simp [intOf]
          | false =>
            have hh1 : Hid (Calls Try.prog 22 #[.slice na Nw.length nc, .int .i64 (j : Int)] wr fun e w' => e = .returned (.bool false) ∧ wr = w') := by
              have := unhide hh; rw [hin] at this; exact this
            have HS1' : Hid ((j : Int) = oI (hdF n (fun i => !inS Nw i) j)) := by
              show _ = _
              rw [unhide HS1]; simp [hin, oI]
            cases hir : inR R j with
            | true =>
              have hr1 := unhide hr
              rw [hir] at hr1
              have HR1 := hide hr1
              have HS2' : Hid (oI (hdF n (fun i => !inR R i && !inS Nw i) (j + 1)) = oI (hdF n (fun i => !inR R i && !inS Nw i) j)) := by
                show _ = _
                rw [unhide HS2]; simp [hir]
              clear hh HS1 HS2 hin hr hr1 hir
              go_wp2_with fail
              refine (unhide hh1).mono ?_
              rintro e w1 ⟨rfl, rfl⟩
              go_wp2_with fail
              refine (unhide HR1).mono ?_
              rintro e w1 ⟨rfl, rfl⟩
              go_wp2
              go_roundw
              case rel => exact ⟨trivial, j, by omega, by go_num, by rw [unhide HS1'], by rw [unhide HS2']⟩
              case measure => simp [intOf]
            | false =>
              have hr1 := unhide hr
              rw [hir] at hr1
              have HR1 := hide hr1
              have HS2' : Hid ((j : Int) = oI (hdF n (fun i => !inR R i && !inS Nw i) j)) := by
                show _ = _
                rw [unhide HS2]; simp [hir, hin, oI]
              clear hh HS1 HS2 hin hr hr1 hir
              go_wp2_with fail
              refine (unhide hh1).mono ?_
              rintro e w1 ⟨rfl, rfl⟩
              go_wp2_with fail
              refine (unhide HR1).mono ?_
              rintro e w1 ⟨rfl, rfl⟩
              go_wp2
              go_roundw
              case rel => exact ⟨trivial, j, by omega, by go_num, by rw [unhide HS1'], by rw [unhide HS2']⟩
              case measure => simp [intOf]
        | zero =>
          have q5 : ¬ (0 : Int) ≤ ((0 : Nat) : Int) - 1 := by omega
          cases hU : hdF n (fun i => !inS Nw i) 0 with
          | none =>
            have hLo := hdF_both (R := R) hU
            rw [hLo]
            have hnx : nxt n R (inS Nw) = none := by rw [hdF_nxt, hLo, hU]
            have hEq : O = E := by have := unhide HDO; rwa [docF_none hnx, List.append_nil] at this
            have HX : Hid (wr.ownsRow w.heap.size 3 1 (.slice oa O.length oc) E.length (ic (zs E)) ∧ Below w.heap.size w wr) := by
              rw [← hEq]
              exact ⟨unhide HO, unhide HB⟩
            clear hU hLo hnx hEq
            simp only [oI]
            go_wp2
            go_ret2
            exact ⟨_, rfl, unhide HX⟩
          | some a =>
            cases hLo : hdF n (fun i => !inR R i && !inS Nw i) 0 with
            | none =>
              simp only [oI]
              have hnx : nxt n R (inS Nw) = some a := by
                rw [hdF_nxt]
                rw [hLo, hU]
              obtain ⟨hx1, hx2⟩ : a < n ∧ inS Nw a = false := ⟨(hdF_mem hU).1, by simpa using (hdF_mem hU).2⟩
              obtain ⟨f', rfl⟩ : ∃ f', f = f' + 1 := ⟨f - 1, by omega⟩
              have hdo2 := unhide HDO
              rw [docF_some hnx] at hdo2
              have hum := un_mk hx1 hx2
              have hmk : mkS (inS Nw) a = inS (Nw ++ [a]) := inS_snoc Nw a
              rw [hmk] at hdo2 hum
              have HDO2 : Hid ((O ++ [a]) ++ docF n R f' (pl n R (inS (Nw ++ [a]))) = E) := by show _ = _; rw [List.append_assoc]; exact hdo2
              have hNl : Nw.length ≤ 160 := by omega
              have hOl : O.length ≤ 200 := by omega
              have HUM := hide hum
              have HX1 := hide hx1
              have q30 : ¬ (a : Int) < 0 := by omega
              have d30 : decide ((a : Int) < 0) = false := decide_eq_false q30
              have q31 : (0 : Int) ≤ a := by omega
              clear hnx hx2 hdo2 hum hmk hU hLo
              go_wp2_with (at_builtin; refine wpList_append_lies _ rfl _ _ 23 rfl w.heap.size 3 i0 (.int .i64 0) 1 8 Try.undI hi0 hz0 hz1 hz2 rfl (by decide) _ _ _ rfl ((unhide HO).alloc _) ⟨wr.heap.size, 0, none⟩ 1 1 [.int .i64 (a : Int)] rfl rfl (news_lit _ [_] _) ?a2 (by omega) ?a3 ?a4 ?a5 _ rfl ?_)
              case a2 => first | rfl | (intro u hu; simp at hu; rw [hu]; rfl)
              case a3 => unfold maxLen; omega
              case a4 => omega
              case a5 => first | omega | (simp; omega)
              all_goals try rfl
              intro g5 c5 w5 hown5 hgrow5 hat5 hlt5
              have hN5 := ((unhide HNW).alloc (.cells #[.int .i64 (a : Int)] 3)).kept hgrow5 (apart_turn2 (unhide HAP))
              have hne5 : (Value.slice na Nw.length nc).ownBlock ≠ some g5 := by
                intro hu
                have hul := (unhide HNW).lt g5 hu
                rcases hat5 with h | h
                · rcases unhide HAP with h' | h'
                  · rw [h'] at h; cases h
                  · exact h' (by rw [h, hu])
                · omega
              have hb5 : Below w.heap.size wr w5 := ((Below.refl w.heap.size _).alloc (by omega) _).grown hgrow5 (by first | omega | (simp; omega)) (fun q hq => ((unhide HO).lt q hq).1)
              have HB5 := hide ((unhide HB).trans hb5)
              have HO5 : Hid (w5.ownsRow w.heap.size 3 1 (.slice (some ⟨g5, 0, none⟩) (O.length + 1) c5) (O ++ [a]).length (ic (zs (O ++ [a])))) := by
                show World.ownsRow _ _ _ _ _ _ _
                rw [List.length_append]
                unfold zs
                rw [List.map_append, ic_append]
                exact hown5
              have HN5 := hide hN5
              have HNE5 := hide hne5
              have hb5s := (unhide HB5).size
              clear hown5 hgrow5 hat5 hN5 hne5 hb5
              go_wp2_with (at_builtin; refine wpList_append_lies _ rfl _ _ 23 rfl w.heap.size 3 i0 (.int .i64 0) 1 8 Try.undI hi0 hz0 hz1 hz2 rfl (by decide) _ _ _ rfl ((unhide HN5).alloc _) ⟨w5.heap.size, 0, none⟩ 1 1 [.int .i64 (a : Int)] rfl rfl (news_lit _ [_] _) ?a6 (by omega) ?a7 ?a8 ?a9 _ rfl ?_)
              case a6 => first | rfl | (intro u hu; simp at hu; rw [hu]; rfl)
              case a7 => unfold maxLen; omega
              case a8 => omega
              case a9 => first | omega | (simp; omega)
              all_goals try rfl
              intro g6 c6 w6 hown6 hgrow6 hat6 hlt6
              have hO6 := ((unhide HO5).alloc (.cells #[.int .i64 (a : Int)] 3)).kept hgrow6 (.inr (fun e => unhide HNE5 e.symm))
              have hb6 : Below w.heap.size w5 w6 := ((Below.refl w.heap.size _).alloc (by omega) _).grown hgrow6 (by first | omega | (simp; omega)) (fun q hq => ((unhide HN5).lt q hq).1)
              have hB6 := (unhide HB5).trans hb6
              have hN6 : w6.ownsRow w.heap.size 3 1 (.slice (some ⟨g6, 0, none⟩) (Nw.length + 1) c6) (Nw ++ [a]).length (ic (zs (Nw ++ [a]))) := by
                rw [List.length_append]
                unfold zs
                rw [List.map_append, ic_append]
                exact hown6
              obtain ⟨_, _, e6, hi6, _, _⟩ := OwnI.ints (l := zs (Nw ++ [a])) (by show World.ownsRow _ _ _ _ _ _ _; rw [zs_length]; exact (show w6.ownsRow w.heap.size 3 1 (.slice (some ⟨g6, 0, none⟩) (Nw ++ [a]).length c6) (Nw ++ [a]).length (ic (zs (Nw ++ [a]))) by rw [List.length_append] at hN6 ⊢; exact hN6))
              simp only [Value.slice.injEq] at e6
              obtain ⟨rfl, _, rfl⟩ := e6
              have hp6 := unhide HP w6 (Nw ++ [a]) (some ⟨g6, 0, none⟩) c6 hB6 (by rw [List.length_append]; simp; omega) hi6
              rw [List.length_append] at hp6
              have HP6 := hide (show Calls Try.prog 29 #[.int .i64 n, .slice a0 m c, .slice (some ⟨g6, 0, none⟩) (Nw.length + 1) c6] w6 _ from hp6)
              have HO6 := hide hO6
              have HB6 := hide hB6
              have hb6s := hB6.size
              clear hown6 hgrow6 hat6 hO6 hb6 hB6 hN6 hi6 hp6
              go_wp2_with fail
              refine (unhide HP6).mono ?_
              rintro e w7 ⟨vL, vK, rfl, D, hL7, hK7, hD7, hS7, b7⟩
              obtain ⟨k7, c7, rfl⟩ := own_shape2 hK7
              have HO7 := hide (own_below2 (unhide HO6) b7)
              have HB7 := hide ((unhide HB6).trans (b7.mono hb6s))
              have HK7 := hide (own_mono hK7 hb6s)
              have HAP7 : Hid ((Value.slice (some ⟨g5, 0, none⟩) (O.length + 1) c5).ownBlock = none ∨ (Value.slice (some ⟨g5, 0, none⟩) (O.length + 1) c5).ownBlock ≠ (Value.slice k7 (KD (Nw ++ [a]) D).length c7).ownBlock) := by
                refine .inr (fun e => ?_)
                have h1 := ((unhide HO6).lt g5 rfl).2
                have h2 := (hK7.lt g5 e.symm).1
                omega
              have HNU7 : Hid ((KD (Nw ++ [a]) D).length + un n (inS (KD (Nw ++ [a]) D)) ≤ n) := by
                show _ ≤ _
                rw [KD_len, hS7, hD7, List.length_append]
                have h1 := peel_un (unhide HLT) n (inS (Nw ++ [a]))
                have h2 := unhide HUM
                simp only [List.length_singleton]
                omega
              have HDO7 : Hid ((O ++ [a]) ++ docF n R f' (inS (KD (Nw ++ [a]) D)) = E) := by
                show _ = _
                rw [hS7]
                exact unhide HDO2
              clear b7 hL7 hK7 hD7 hS7
              go_wp2
              rw [field_peeled1]
              go_wp2
              go_roundw
              case rel => exact ⟨s + 1, f', O ++ [a], KD (Nw ++ [a]) D, by omega, by rw [List.length_append]; simp; omega, by go_num, unhide HO7, unhide HK7, unhide HAP7, unhide HNU7, unhide HDO7, unhide HB7⟩
              case measure => simp [intOf]; omega
            | some b =>
              have q40 : ¬ (a : Int) < 0 := by omega
              have d40 : decide ((a : Int) < 0) = false := decide_eq_false q40
              simp only [oI]
              have hnx : nxt n R (inS Nw) = some b := by
                rw [hdF_nxt]
                rw [hLo]
              obtain ⟨hx1, hx2⟩ : b < n ∧ inS Nw b = false := ⟨(hdF_mem hLo).1, by have := (hdF_mem hLo).2; simp at this; exact this.2⟩
              obtain ⟨f', rfl⟩ : ∃ f', f = f' + 1 := ⟨f - 1, by omega⟩
              have hdo2 := unhide HDO
              rw [docF_some hnx] at hdo2
              have hum := un_mk hx1 hx2
              have hmk : mkS (inS Nw) b = inS (Nw ++ [b]) := inS_snoc Nw b
              rw [hmk] at hdo2 hum
              have HDO2 : Hid ((O ++ [b]) ++ docF n R f' (pl n R (inS (Nw ++ [b]))) = E) := by show _ = _; rw [List.append_assoc]; exact hdo2
              have hNl : Nw.length ≤ 160 := by omega
              have hOl : O.length ≤ 200 := by omega
              have HUM := hide hum
              have HX1 := hide hx1
              have q30 : ¬ (b : Int) < 0 := by omega
              have d30 : decide ((b : Int) < 0) = false := decide_eq_false q30
              have q31 : (0 : Int) ≤ b := by omega
              clear hnx hx2 hdo2 hum hmk hU hLo
              go_wp2_with (at_builtin; refine wpList_append_lies _ rfl _ _ 23 rfl w.heap.size 3 i0 (.int .i64 0) 1 8 Try.undI hi0 hz0 hz1 hz2 rfl (by decide) _ _ _ rfl ((unhide HO).alloc _) ⟨wr.heap.size, 0, none⟩ 1 1 [.int .i64 (b : Int)] rfl rfl (news_lit _ [_] _) ?b2 (by omega) ?b3 ?b4 ?b5 _ rfl ?_)
              case b2 => first | rfl | (intro u hu; simp at hu; rw [hu]; rfl)
              case b3 => unfold maxLen; omega
              case b4 => omega
              case b5 => first | omega | (simp; omega)
              all_goals try rfl
              intro g5 c5 w5 hown5 hgrow5 hat5 hlt5
              have hN5 := ((unhide HNW).alloc (.cells #[.int .i64 (b : Int)] 3)).kept hgrow5 (apart_turn2 (unhide HAP))
              have hne5 : (Value.slice na Nw.length nc).ownBlock ≠ some g5 := by
                intro hu
                have hul := (unhide HNW).lt g5 hu
                rcases hat5 with h | h
                · rcases unhide HAP with h' | h'
                  · rw [h'] at h; cases h
                  · exact h' (by rw [h, hu])
                · omega
              have hb5 : Below w.heap.size wr w5 := ((Below.refl w.heap.size _).alloc (by omega) _).grown hgrow5 (by first | omega | (simp; omega)) (fun q hq => ((unhide HO).lt q hq).1)
              have HB5 := hide ((unhide HB).trans hb5)
              have HO5 : Hid (w5.ownsRow w.heap.size 3 1 (.slice (some ⟨g5, 0, none⟩) (O.length + 1) c5) (O ++ [b]).length (ic (zs (O ++ [b])))) := by
                show World.ownsRow _ _ _ _ _ _ _
                rw [List.length_append]
                unfold zs
                rw [List.map_append, ic_append]
                exact hown5
              have HN5 := hide hN5
              have HNE5 := hide hne5
              have hb5s := (unhide HB5).size
              clear hown5 hgrow5 hat5 hN5 hne5 hb5
              go_wp2_with (at_builtin; refine wpList_append_lies _ rfl _ _ 23 rfl w.heap.size 3 i0 (.int .i64 0) 1 8 Try.undI hi0 hz0 hz1 hz2 rfl (by decide) _ _ _ rfl ((unhide HN5).alloc _) ⟨w5.heap.size, 0, none⟩ 1 1 [.int .i64 (b : Int)] rfl rfl (news_lit _ [_] _) ?b6 (by omega) ?b7 ?b8 ?b9 _ rfl ?_)
              case b6 => first | rfl | (intro u hu; simp at hu; rw [hu]; rfl)
              case b7 => unfold maxLen; omega
              case b8 => omega
              case b9 => first | omega | (simp; omega)
              all_goals try rfl
              intro g6 c6 w6 hown6 hgrow6 hat6 hlt6
              have hO6 := ((unhide HO5).alloc (.cells #[.int .i64 (b : Int)] 3)).kept hgrow6 (.inr (fun e => unhide HNE5 e.symm))
              have hb6 : Below w.heap.size w5 w6 := ((Below.refl w.heap.size _).alloc (by omega) _).grown hgrow6 (by first | omega | (simp; omega)) (fun q hq => ((unhide HN5).lt q hq).1)
              have hB6 := (unhide HB5).trans hb6
              have hN6 : w6.ownsRow w.heap.size 3 1 (.slice (some ⟨g6, 0, none⟩) (Nw.length + 1) c6) (Nw ++ [b]).length (ic (zs (Nw ++ [b]))) := by
                rw [List.length_append]
                unfold zs
                rw [List.map_append, ic_append]
                exact hown6
              obtain ⟨_, _, e6, hi6, _, _⟩ := OwnI.ints (l := zs (Nw ++ [b])) (by show World.ownsRow _ _ _ _ _ _ _; rw [zs_length]; exact (show w6.ownsRow w.heap.size 3 1 (.slice (some ⟨g6, 0, none⟩) (Nw ++ [b]).length c6) (Nw ++ [b]).length (ic (zs (Nw ++ [b]))) by rw [List.length_append] at hN6 ⊢; exact hN6))
              simp only [Value.slice.injEq] at e6
              obtain ⟨rfl, _, rfl⟩ := e6
              have hp6 := unhide HP w6 (Nw ++ [b]) (some ⟨g6, 0, none⟩) c6 hB6 (by rw [List.length_append]; simp; omega) hi6
              rw [List.length_append] at hp6
              have HP6 := hide (show Calls Try.prog 29 #[.int .i64 n, .slice a0 m c, .slice (some ⟨g6, 0, none⟩) (Nw.length + 1) c6] w6 _ from hp6)
              have HO6 := hide hO6
              have HB6 := hide hB6
              have hb6s := hB6.size
              clear hown6 hgrow6 hat6 hO6 hb6 hB6 hN6 hi6 hp6
              go_wp2_with fail
              refine (unhide HP6).mono ?_
              rintro e w7 ⟨vL, vK, rfl, D, hL7, hK7, hD7, hS7, b7⟩
              obtain ⟨k7, c7, rfl⟩ := own_shape2 hK7
              have HO7 := hide (own_below2 (unhide HO6) b7)
              have HB7 := hide ((unhide HB6).trans (b7.mono hb6s))
              have HK7 := hide (own_mono hK7 hb6s)
              have HAP7 : Hid ((Value.slice (some ⟨g5, 0, none⟩) (O.length + 1) c5).ownBlock = none ∨ (Value.slice (some ⟨g5, 0, none⟩) (O.length + 1) c5).ownBlock ≠ (Value.slice k7 (KD (Nw ++ [b]) D).length c7).ownBlock) := by
                refine .inr (fun e => ?_)
                have h1 := ((unhide HO6).lt g5 rfl).2
                have h2 := (hK7.lt g5 e.symm).1
                omega
              have HNU7 : Hid ((KD (Nw ++ [b]) D).length + un n (inS (KD (Nw ++ [b]) D)) ≤ n) := by
                show _ ≤ _
                rw [KD_len, hS7, hD7, List.length_append]
                have h1 := peel_un (unhide HLT) n (inS (Nw ++ [b]))
                have h2 := unhide HUM
                simp only [List.length_singleton]
                omega
              have HDO7 : Hid ((O ++ [b]) ++ docF n R f' (inS (KD (Nw ++ [b]) D)) = E) := by
                show _ = _
                rw [hS7]
                exact unhide HDO2
              clear b7 hL7 hK7 hD7 hS7
              go_wp2
              rw [field_peeled1]
              go_wp2
              go_roundw
              case rel => exact ⟨s + 1, f', O ++ [b], KD (Nw ++ [b]) D, by omega, by rw [List.length_append]; simp; omega, by go_num, unhide HO7, unhide HK7, unhide HAP7, unhide HNU7, unhide HDO7, unhide HB7⟩
              case measure => simp [intOf]; omega
    · obtain rfl : f = 0 := by omega
      have q1 : ¬ (s : Int) ≤ n := by omega
      have hEq : O = E := by
        have := hdo
        rwa [show docF n R 0 (inS Nw) = [] from rfl, List.append_nil] at this
      have HX : Hid (wr.ownsRow w.heap.size 3 1 (.slice oa O.length oc) E.length (ic (zs E)) ∧ Below w.heap.size w wr) := by
        rw [← hEq]
        exact ⟨hO, hB⟩
      clear hO hNw hap hdo hB hiN hEq
      go_wp2
      go_ret2
      exact ⟨_, rfl, unhide HX⟩
set_option maxRecDepth 100000 in
set_option maxHeartbeats 1000000 in
theorem dneeds_no (n : Int) (Rs : List (List Int)) (Ks : List Int) (a0 k0 : Option Addr) (c kc : Nat) (hn : -9223372036854775808 ≤ n ∧ n ≤ 9223372036854775807) (hk : Rs.length ≤ maxLen) (hk2 : ∀ r ∈ Rs, r.length ≤ maxLen) (hk3 : Ks.length ≤ maxLen) (w : World) (hI : RowsA w a0 Rs) (hK : Ints w k0 Ks) (hno : (mayB n Rs && mayB n [Ks]) = false) :
    Calls Try.prog 21 #[.int .i64 n, .slice a0 Rs.length c, .slice k0 Ks.length kc] w fun e w' => e = .returned (.tuple #[.slice none 0 0, .int .i64 1]) ∧ Below w.heap.size w w' := by
  have hm := hide (pdmay_any n Rs Ks a0 k0 c kc hn hk hk2 hk3 w hI hK)
  rw [hno] at hm
  generalize Rs.length = m at *
  generalize Ks.length = l at *
  clear hI hK hno
  go_enter Try.func21, Try.ntmps21
  go_wp2_with fail
  refine (unhide hm).mono ?_
  rintro e w1 ⟨rfl, b1⟩
  have B1 := hide b1
  clear b1
  go_wp2
  go_ret2
  exact ⟨rfl, unhide B1⟩
end Go.Proofs.Ytfihpmhobjjaaaa
