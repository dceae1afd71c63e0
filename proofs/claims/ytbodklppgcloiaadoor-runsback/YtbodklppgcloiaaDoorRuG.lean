/- The iterator of packed bytes; Unpack. -/
import Derived.Test.YtbodklppgcloiaaDoorRuF
import Derived.Test.YtbodklppgcloiaaDoorOctR
namespace Go.Proofs.YtbodklppgcloiaaDoor
open Go.RowKit Go.Shelf
set_option linter.unusedVariables false
attribute [local go_sem] Oper.semAt_some

/-- the spans that packed bytes say, from an end on -/
def pkd : Nat → By → List (Nat × Nat)
  | _, [] => []
  | e, [a] => [(e + a.toNat, e + a.toNat)]
  | e, a :: b :: t => (e + a.toNat, e + a.toNat + b.toNat) :: pkd (e + a.toNat + b.toNat) t
/-- spans of numbers as spans of integers -/
def toJ (l : List (Nat × Nat)) : List (Int × Int) := l.map fun x => ((x.1 : Int), (x.2 : Int))
theorem num_cons (a : UInt8) (r : By) : num (bs (a :: r), 0) 1 = ((a.toNat : Int), (bs r, 0)) := by
  have h : raw (bs (a :: r), 0) 1 = (bs [a], (bs r, 0)) := by
    unfold raw
    rw [if_neg (by simp), if_neg (by omega), if_neg (by show ¬ ((bs (a :: r)).size : Int) < 1; rw [bs_size]; simp; omega)]
    simp only [bs_size]
    congr 1
    · apply ByteArray.ext
      simp [bs]
    · congr 1
      apply ByteArray.ext
      simp [bs]
  unfold num
  rw [if_neg (by simp), if_neg (by omega), h]
  simp [getV, bs]
theorem num_nil : num (bs [], 0) 1 = (0, (bs [], 7)) := by
  unfold num raw
  simp [bs_size, getV]
theorem left_ok (r : By) : left (bs r, 0) = (r.length : Int) := by unfold left; rw [if_neg (by simp)]; simp [bs_size]
theorem left_bad (q : ByteArray × Int) (h : q.2 ≠ 0) : left q = 0 := by unfold left; rw [if_pos h]
/-- how many bytes are left at a reader -/
def rdLen (R : Nat) (w : World) : Nat := match w.cell? ⟨R, 0, none⟩ with | some (.string b) => b.size | _ => 0
theorem rdLen_at {R : Nat} {w : World} {q : ByteArray × Int} (h : RdAt w R q) : rdLen R w = q.1.size := by
  unfold rdLen
  rw [cell0_of_two h]
theorem turned_kept {n b : Nat} {w w' : World} {q : ByteArray × Int} (h : RdAt w b q) (hn : n ≤ b) (k : Kept w.heap.size b w w') : Turned (itKind 105) n w w' :=
  ⟨k.os, k.tape, k.output, k.size, fun i hi => by
    by_cases e : i = b
    · subst e
      exact .inr ⟨hn, _, h, .inr ⟨_, _, rfl⟩⟩
    · exact .inl (k.block i hi e)⟩
set_option maxRecDepth 100000 in
set_option maxHeartbeats 4000000 in
theorem packed1_in (m : Nat) (hm : 1 ≤ m) (l n0 b1 : Nat) (t : By) (ht : t.length ≤ 100000) (J Jx : List (Int × Int) → World → Prop)
    (W : World) (hA : Stays (itKind 105) W.heap.size J)
    (hY : ∀ pre (x : Int × Int) W, J pre W → pre.length < t.length → YieldAt Fence.wide (m - 1) Tryd.prog l #[spI x] W fun e W' =>
      (e = .returned (.bool true) ∧ J (pre ++ [x]) W' ∧ KpG n0 W W') ∨ (e = .returned (.bool false) ∧ Jx (pre ++ [x]) W'))
    (hW : W.cell? ⟨b1, 0, none⟩ = some (.string (bs t))) (h0 : J [] W) :
    CallsIn Fence.wide m Tryd.prog 69 #[.func (.yield l) #[] #[], .pointer (some ⟨b1, 0, none⟩)] W fun e W' => (∃ v, e = .returned v) ∧
      ((∃ xs, xs = toJ (pkd 0 t) ∧ J xs W') ∨ (∃ pre, pre <+: toJ (pkd 0 t) ∧ Jx pre W')) := by
  have hf := hide (from_any (bs t) W)
  have hsz : (bs t).size ≤ maxLen := by rw [bs_size]; unfold maxLen; omega
  have hTs : ∀ o, Hid (J [] (W.alloc o)) := fun o => hA [] W _ h0 (Turned.below ((Below.refl _ W).alloc (Nat.le_refl _) _))
  refine callsIn_of_wp Tryd.func69 rfl trivial ?_ rfl
  simp only [Tryd.ntmps69, List.size_toArray, List.length_cons, List.length_nil, Nat.reduceAdd, Nat.reduceSub, Array.replicate_succ, Array.replicate_zero, List.push_toArray, List.append_toArray, List.nil_append, List.cons_append]
  gi_wp2_with (fail)
  refine ⟨trivial, ?_⟩
  refine (callsIn_wide.2 (unhide hf)).mono ?_
  rintro e w1 ⟨rfl, hrd, rfl⟩
  have hJ1 := hTs (.cells #[.string (bs t), .int .i64 0] 105)
  generalize hR : W.heap.size = R at *
  generalize W.alloc (.cells #[.string (bs t), .int .i64 0] 105) = W1 at *
  clear hf hTs hW h0
  gi_wp2
  gi_loopw [4] (fun v wr => ∃ (pre : List (Nat × Nat)) (e : Nat) (q : ByteArray × Int), v = .int .i64 e ∧ J (toJ pre) wr ∧ RdAt wr R q ∧ q.1.size ≤ t.length ∧ pre.length + q.1.size ≤ t.length ∧ e + 255 * q.1.size ≤ 255 * t.length ∧ ((∃ rest, q = (bs rest, 0) ∧ pkd 0 t = pre ++ pkd e rest) ∨ (q.2 ≠ 0 ∧ pkd 0 t = pre))) (fun _ wr => rdLen R wr)
  case atStart => exact ⟨[], 0, _, rfl, unhide hJ1, hrd, by show (bs t).size ≤ _; rw [bs_size]; exact Nat.le_refl _, by simp [bs_size], by simp [bs_size], .inl ⟨t, rfl, rfl⟩⟩
  case round =>
    obtain ⟨pre, e, q, rfl, hJ, hr, q1, q2, q3, hq⟩ := hrel
    have hl := hide (rleft_any wr R q hr)
    have hlen := rdLen_at hr
    have ending : left q = 0 → Hid (toJ pre = toJ (pkd 0 t)) := fun h => by
      show _ = _
      rcases hq with ⟨rest, rfl, h2⟩ | ⟨_, h2⟩
      · rw [left_ok] at h
        have : rest = [] := List.length_eq_zero_iff.1 (by omega)
        subst this
        rw [h2]; simp [pkd]
      · rw [h2]
    by_cases hz : left q = 0
    · have HE := ending hz
      rw [hz] at hl
      clear ending hq hlen
      gi_wp2_with (fail)
      refine ⟨trivial, ?_⟩
      refine (callsIn_wide.2 (unhide hl)).mono ?_
      rintro e2 w2 ⟨rfl, rfl⟩
      have HJ := hide hJ
      clear hJ hr hl
      gi_wp2
      go_end0
      exact ⟨⟨_, rfl⟩, .inl ⟨_, unhide HE, unhide HJ⟩⟩
    · obtain ⟨rest, rfl, h2⟩ : ∃ rest, q = (bs rest, 0) ∧ pkd 0 t = pre ++ pkd e rest := by
        rcases hq with h | ⟨h2, _⟩
        · exact h
        · exact absurd (left_bad q h2) hz
      obtain ⟨a, r1, rfl⟩ : ∃ a r1, rest = a :: r1 := by
        cases rest with
        | nil => exact absurd (left_ok []) hz
        | cons a r => exact ⟨a, r, rfl⟩
      rw [left_ok] at hl
      have ha := a.toNat_lt
      simp only [bs_size, List.length_cons] at q1 q2 q3 hlen
      have hn1 := hide (rnum_any wr R _ 1 (by show (bs (a :: r1)).size ≤ _; rw [bs_size]; unfold maxLen; simp only [List.length_cons]; omega) hr)
      rw [num_cons] at hn1
      have HJ := hide hJ
      have HR := hide hr
      have HL := hide hlen
      have pos : (0 : Int) < ((r1.length + 1 : Nat) : Int) := by omega
      clear ending hJ hr hlen hz
      simp only [List.length_cons] at hl
      obtain ⟨b, r2, q', hpk, hn2, hb, hrs, hsz2⟩ : ∃ (b : Nat) (r2 : List (Nat × Nat)) (q' : ByteArray × Int), pkd e (a :: r1) = (e + a.toNat, e + a.toNat + b) :: r2 ∧ num (bs r1, 0) 1 = ((b : Int), q') ∧ b < 256 ∧ ((∃ rest, q' = (bs rest, 0) ∧ r2 = pkd (e + a.toNat + b) rest) ∨ (q'.2 ≠ 0 ∧ r2 = [])) ∧ q'.1.size ≤ r1.length - (if r1 = [] then 0 else 1) := by
        cases r1 with
        | nil => exact ⟨0, [], _, rfl, num_nil, by omega, .inr ⟨by simp, rfl⟩, by simp [bs_size]⟩
        | cons b r => exact ⟨b.toNat, _, _, rfl, num_cons b r, b.toNat_lt, .inl ⟨r, rfl, rfl⟩, by simp [bs_size]⟩
      have hsz3 : q'.1.size ≤ r1.length ∧ (q'.2 = 0 → q'.1.size + 1 ≤ r1.length) := by
        refine ⟨by omega, fun h => ?_⟩
        rcases hrs with ⟨rest, rfl, _⟩ | ⟨h', _⟩
        · cases r1 with
          | nil => rw [num_nil] at hn2; have := congrArg (fun x => x.2.2) hn2; simp at this
          | cons b r => simp at hsz2; simp; omega
        · exact absurd h h'
      have hbz : q'.2 ≠ 0 → b = 0 := fun h => by
        cases r1 with
        | nil => rw [num_nil] at hn2; have := congrArg (fun x => x.1) hn2; simp at this; omega
        | cons b' r => rw [num_cons] at hn2; have := congrArg (fun x => x.2.2) hn2; simp at this; exact absurd this.symm h
      rw [hpk] at h2
      have w1' : ((e : Int) + (a.toNat : Int)) ≤ 30000000 := by omega
      gi_wp2_with (fail)
      refine ⟨trivial, ?_⟩
      refine (callsIn_wide.2 (unhide hl)).mono ?_
      rintro e2 w2 ⟨rfl, rfl⟩
      gi_wp2_with (fail)
      refine ⟨trivial, ?_⟩
      refine (callsIn_wide.2 (unhide hn1)).mono ?_
      rintro e2 w2 ⟨rfl, hr2, k2⟩
      have HJ2 := hide (hA _ _ _ (unhide HJ) (turned_kept (unhide HR) (by omega) k2))
      have hn3 := hide (rnum_any w2 R _ 1 (by show (bs r1).size ≤ _; rw [bs_size]; unfold maxLen; omega) hr2)
      rw [hn2] at hn3
      have HR2 := hide hr2
      clear hr2 k2 hl hn1 HJ HR
      gi_wp2_with (fail)
      refine ⟨trivial, ?_⟩
      refine (callsIn_wide.2 (unhide hn3)).mono ?_
      rintro e2 w3 ⟨rfl, hr3, k3⟩
      have hJ3 := hA _ _ _ (unhide HJ2) (turned_kept (unhide HR2) (by omega) k3)
      have HR3 := hide hr3
      obtain ⟨fn, tmps, assign, body, hy, hRn⟩ := hY (toJ pre) (((e + a.toNat : Nat) : Int), ((e + a.toNat + b : Nat) : Int)) w3 hJ3 (by simp [toJ]; omega)
      unfold spI at hy
      dsimp only at hy
      rw [Int.natCast_add (e + a.toNat) b, Int.natCast_add e a.toNat] at hy
      clear hr3 k3 hn3 HJ2 HR2 hJ3
      gi_wp2
      refine hRn.mono ?_
      have hpre : Hid (toJ pre ++ [(((e + a.toNat : Nat) : Int), ((e + a.toNat + b : Nat) : Int))] = toJ (pre ++ [(e + a.toNat, e + a.toNat + b)])) := by show _ = _; simp [toJ]
      rintro e2 W3 (⟨rfl, hJ4, hk4⟩ | ⟨rfl, hJx4⟩)
      · have hr4 : RdAt W3 R q' := hk4 R _ _ _ (unhide HR3) (.inr ⟨by decide, by decide⟩)
        have HR4 := hide hr4
        have HJ4 := hide hJ4
        have hlen4 := hide (rdLen_at hr4)
        clear hr4 hJ4 hk4 hRn hy
        gi_wp2
        go_roundw
        case rel =>
          refine ⟨pre ++ [(e + a.toNat, e + a.toNat + b)], e + a.toNat + b, q', by go_num, by rw [← unhide hpre]; exact unhide HJ4, unhide HR4, by omega, by simp; omega, ?_, ?_⟩
          · by_cases hq0 : q'.2 = 0
            · have := hsz3.2 hq0; omega
            · have := hbz hq0; omega
          · rcases hrs with ⟨rest, h5, h6⟩ | ⟨h5, h6⟩
            · exact .inl ⟨rest, h5, by rw [h2, h6]; simp⟩
            · exact .inr ⟨h5, by rw [h2, h6]⟩
        case measure => rw [unhide hlen4, unhide HL]; omega
      · have HJ4 := hide hJx4
        clear hJx4 hRn hy
        gi_wp2
        refine bodyPost_ret (results_none rfl _ _ _) rfl ?_
        refine ⟨⟨_, rfl⟩, .inr ⟨_, ?_, unhide HJ4⟩⟩
        rw [unhide hpre, h2]
        refine ⟨toJ r2, ?_⟩
        simp [toJ]
end Go.Proofs.YtbodklppgcloiaaDoor
