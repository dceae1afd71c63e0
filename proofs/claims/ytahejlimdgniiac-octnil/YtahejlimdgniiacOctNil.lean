/- What the law OctNil does, whatever the world: it answers true and changes nothing that was there. -/
import Derived.Test.YtahejlimdgniiacOctAwake
import Derived.Test.YtahejlimdgniiacOctG
namespace Go.Proofs.Ytahejlimdgniiac
open Go.RowKit
set_option linter.unusedVariables false

theorem wnum_nil (w : World) (n size : Int) :
    Calls Try.prog 12 #[.pointer none, .int .i64 n, .int .i64 size] w fun x w' => x = .returned (.tuple #[]) ∧ Below w.heap.size w w' := by
  have hp := put_any n size w
  generalize (putS n size).1 = t at *
  generalize (putS n size).2 = er at *
  have HP := hide hp
  clear hp
  by_cases h0 : er = 0
  · subst h0
    go_enter Try.func12, Try.ntmps12
    go_wp2_with fail
    refine (unhide HP).mono ?_
    rintro e w1 ⟨rfl, hb1⟩
    go_wp2_with fail
    refine (wraw_nil w1 _).mono ?_
    rintro e w2 ⟨rfl, rfl⟩
    go_wp2
    go_end0
    exact ⟨rfl, hb1⟩
  · have hne : (er != 0) = true := by simpa using h0
    go_enter Try.func12, Try.ntmps12
    go_wp2_with fail
    refine (unhide HP).mono ?_
    rintro e w1 ⟨rfl, hb1⟩
    go_wp2_with fail
    refine (wnote_nil w1 _).mono ?_
    rintro e w2 ⟨rfl, rfl⟩
    go_wp2
    refine bodyPost_ret (results_none rfl _ _ _) rfl ?_
    exact ⟨rfl, hb1⟩

theorem wtext_nil (w : World) (s : ByteArray) (hs : s.size ≤ maxLen) :
    Calls Try.prog 9 #[.pointer none, .string s] w fun x w' => x = .returned (.tuple #[]) ∧ Below w.heap.size w w' := by
  unfold maxLen at hs
  by_cases hlt : (65535 : Int) < s.size
  · go_enter Try.func9, Try.ntmps9
    go_wp2_with fail
    refine (wnote_nil w _).mono ?_
    rintro e w2 ⟨rfl, rfl⟩
    go_wp2
    refine bodyPost_ret (results_none rfl _ _ _) rfl ?_
    exact ⟨rfl, Below.refl _ _⟩
  · go_enter Try.func9, Try.ntmps9
    go_wp2_with fail
    refine (wnum_nil w _ _).mono ?_
    rintro e w2 ⟨rfl, hb1⟩
    go_wp2_with fail
    refine (wraw_nil w2 _).mono ?_
    rintro e w2 ⟨rfl, rfl⟩
    go_wp2
    go_end0
    exact ⟨rfl, hb1⟩

theorem rerr_nil (w : World) :
    Calls Try.prog 18 #[.pointer none] w fun x w' => x = .returned (.int .i64 1) ∧ w = w' := by
  go_enter Try.func18, Try.ntmps18
  go_wp2
  go_ret
  exact ⟨rfl, rfl⟩
theorem rnote_nil (w : World) (e : Int) :
    Calls Try.prog 22 #[.pointer none, .int .i64 e] w fun x w' => x = .returned (.tuple #[]) ∧ w = w' := by
  go_enter Try.func22, Try.ntmps22
  go_wp2_with (go_at_call 18; refine (rerr_nil _).mono ?_; rintro e w' ⟨rfl, rfl⟩)
  go_end0
  exact ⟨rfl, rfl⟩
theorem rleft_nil (w : World) :
    Calls Try.prog 17 #[.pointer none] w fun x w' => x = .returned (.int .i64 0) ∧ w = w' := by
  go_enter Try.func17, Try.ntmps17
  go_wp2_with (go_at_call 18; refine (rerr_nil _).mono ?_; rintro e w' ⟨rfl, rfl⟩)
  go_ret
  exact ⟨rfl, rfl⟩
theorem rend_nil (w : World) :
    Calls Try.prog 19 #[.pointer none] w fun x w' => x = .returned (.int .i64 1) ∧ w = w' := by
  go_enter Try.func19, Try.ntmps19
  go_wp2_with (go_at_call 18; refine (rerr_nil _).mono ?_; rintro e w' ⟨rfl, rfl⟩)
  go_ret
  exact ⟨rfl, rfl⟩
theorem rraw_nil (w : World) (n : Int) :
    Calls Try.prog 15 #[.pointer none, .int .i64 n] w fun x w' => x = .returned (.string ⟨#[]⟩) ∧ w = w' := by
  rcases (show n < 0 ∨ n = 0 ∨ 0 < n by omega) with h | h | h
  · go_enter Try.func15, Try.ntmps15
    go_wp2_with (first | (go_at_call 18; refine (rerr_nil _).mono ?_; rintro e w' ⟨rfl, rfl⟩) | (go_at_call 22; refine (rnote_nil _ _).mono ?_; rintro e w' ⟨rfl, rfl⟩))
    go_ret
    exact ⟨rfl, rfl⟩
  · subst h
    go_enter Try.func15, Try.ntmps15
    go_wp2_with (first | (go_at_call 18; refine (rerr_nil _).mono ?_; rintro e w' ⟨rfl, rfl⟩) | (go_at_call 17; refine (rleft_nil _).mono ?_; rintro e w' ⟨rfl, rfl⟩))
    go_ret
    exact ⟨rfl, rfl⟩
  · have h' : ¬ n < 0 := by omega
    go_enter Try.func15, Try.ntmps15
    go_wp2_with (first | (go_at_call 18; refine (rerr_nil _).mono ?_; rintro e w' ⟨rfl, rfl⟩) | (go_at_call 22; refine (rnote_nil _ _).mono ?_; rintro e w' ⟨rfl, rfl⟩) | (go_at_call 17; refine (rleft_nil _).mono ?_; rintro e w' ⟨rfl, rfl⟩))
    go_ret
    exact ⟨rfl, rfl⟩
theorem rrest_nil (w : World) :
    Calls Try.prog 16 #[.pointer none] w fun x w' => x = .returned (.string ⟨#[]⟩) ∧ w = w' := by
  go_enter Try.func16, Try.ntmps16
  go_wp2_with (first | (go_at_call 17; refine (rleft_nil _).mono ?_; rintro e w' ⟨rfl, rfl⟩) | (go_at_call 15; refine (rraw_nil _ _).mono ?_; rintro e w' ⟨rfl, rfl⟩))
  go_ret
  exact ⟨rfl, rfl⟩
theorem get_empty (w : World) :
    Calls Try.prog 23 #[.string ⟨#[]⟩] w fun x w' => x = .returned (.int .i64 0) ∧ w = w' := get_any ⟨#[]⟩ w (by decide)
theorem rnum_nil (w : World) (n : Int) :
    Calls Try.prog 13 #[.pointer none, .int .i64 n] w fun x w' => x = .returned (.int .i64 0) ∧ w = w' := by
  by_cases h : 1 ≤ n ∧ n ≤ 7
  · go_enter Try.func13, Try.ntmps13
    go_wp2_with (first | (go_at_call 20; refine (isSize_yes _ _ h.1 h.2).mono ?_; rintro e w' ⟨rfl, rfl⟩) | (go_at_call 15; refine (rraw_nil _ _).mono ?_; rintro e w' ⟨rfl, rfl⟩) | (go_at_call 23; refine (get_empty _).mono ?_; rintro e w' ⟨rfl, rfl⟩))
    go_ret
    exact ⟨rfl, rfl⟩
  · have h' : n < 1 ∨ 7 < n := by omega
    go_enter Try.func13, Try.ntmps13
    go_wp2_with (first | (go_at_call 20; refine (isSize_no _ _ h').mono ?_; rintro e w' ⟨rfl, rfl⟩) | (go_at_call 22; refine (rnote_nil _ _).mono ?_; rintro e w' ⟨rfl, rfl⟩))
    go_ret
    exact ⟨rfl, rfl⟩
theorem rtext_nil (w : World) :
    Calls Try.prog 14 #[.pointer none] w fun x w' => x = .returned (.string ⟨#[]⟩) ∧ w = w' := by
  go_enter Try.func14, Try.ntmps14
  go_wp2_with (first | (go_at_call 13; refine (rnum_nil _ _).mono ?_; rintro e w' ⟨rfl, rfl⟩) | (go_at_call 15; refine (rraw_nil _ _).mono ?_; rintro e w' ⟨rfl, rfl⟩))
  go_ret
  exact ⟨rfl, rfl⟩

theorem octNil_any (n size : Int) (s : ByteArray) (w : World) (hn : (Lit.int .i64 n).wf = true) (hsz : (Lit.int .i64 size).wf = true) (hs : s.size ≤ maxLen) :
    Calls Try.prog 5 #[.int .i64 n, .int .i64 size, .string s] w fun e w' => e = .returned (.bool true) ∧ Below w.heap.size w w' := by
  go_enter Try.func5, Try.ntmps5
  go_wp2_with fail
  refine (wnum_nil w n size).mono ?_
  rintro e w1 ⟨rfl, b1⟩
  go_wp2_with fail
  refine (wtext_nil w1 s hs).mono ?_
  rintro e w2 ⟨rfl, b2⟩
  go_wp2_with fail
  refine (wraw_nil w2 s).mono ?_
  rintro e w2 ⟨rfl, rfl⟩
  go_wp2_with fail
  refine (bytes_nil w2).mono ?_
  rintro e w2 ⟨rfl, rfl⟩
  go_wp2_with fail
  refine (awake_any w2).mono ?_
  rintro e w3 ⟨rfl, b3⟩
  have hb : Below w.heap.size w w3 := (b1.trans (b2.mono b1.size)).trans (b3.mono (Nat.le_trans b1.size b2.size))
  have HB := hide hb
  clear hb b1 b2 b3
  go_wp2_with (first | (go_at_call 13; refine (rnum_nil _ _).mono ?_; rintro e w' ⟨rfl, rfl⟩) | (go_at_call 15; refine (rraw_nil _ _).mono ?_; rintro e w' ⟨rfl, rfl⟩) | (go_at_call 14; refine (rtext_nil _).mono ?_; rintro e w' ⟨rfl, rfl⟩) | (go_at_call 16; refine (rrest_nil _).mono ?_; rintro e w' ⟨rfl, rfl⟩) | (go_at_call 17; refine (rleft_nil _).mono ?_; rintro e w' ⟨rfl, rfl⟩) | (go_at_call 18; refine (rerr_nil _).mono ?_; rintro e w' ⟨rfl, rfl⟩) | (go_at_call 19; refine (rend_nil _).mono ?_; rintro e w' ⟨rfl, rfl⟩))
  go_ret
  exact ⟨rfl, unhide HB⟩

end Go.Proofs.Ytahejlimdgniiac
