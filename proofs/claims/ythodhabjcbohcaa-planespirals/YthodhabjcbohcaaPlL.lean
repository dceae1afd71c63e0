/- What the law PlaneSpirals does, whatever the world: it answers true and changes nothing that was there. -/
import Derived.Test.YthodhabjcbohcaaPlK1
import Derived.Test.YthodhabjcbohcaaPlK2
import Derived.Test.YthodhabjcbohcaaPlK3
namespace Go.Proofs.Ythodhabjcbohcaa
open Go.RowKit
set_option linter.unusedVariables false

theorem mod301 (x : Int) : ∃ z : Int, x.tmod 301 = z ∧ (-300 ≤ z ∧ z ≤ 300) := by
  refine ⟨_, rfl, ?_⟩
  rcases Int.le_total 0 x with h | h
  · rw [Int.tmod_eq_emod_of_nonneg h]; omega
  · have e1 : x.tmod 301 = -((-x) % 301) := by
      have := Int.neg_tmod (a := -x) (b := 301)
      rw [Int.neg_neg] at this
      rw [this, Int.tmod_eq_emod_of_nonneg (by omega)]
    rw [e1]; omega
theorem dspiral_small (n : Int) (h : n ≤ 20000) (w : World) : Calls Try.prog 31 #[.int .i64 n] w fun e w' => e = .returned (rvE (spA n)) ∧ Below w.heap.size w w' := by
  unfold spA
  by_cases h0 : n < 0
  · rw [if_neg (by omega)]
    exact dspiral_neg n w h0
  · rw [if_pos (by omega)]
    obtain ⟨m, rfl⟩ := Int.eq_ofNat_of_zero_le (show 0 ≤ n by omega)
    exact dspiral_in m w (by omega)

theorem planeSpirals_any (n x y : Int) (w : World) (wn : (Lit.int .i64 n).wf = true) (wx : (Lit.int .i64 x).wf = true) (wy : (Lit.int .i64 y).wf = true) :
    Calls Try.prog 7 #[.int .i64 n, rv x y] w fun e w' => e = .returned (.bool true) ∧ Below w.heap.size w w' := by
  by_cases h1 : n ≤ 20000
  · have hds := fun w => dspiral_small n h1 w
    cases hok : okP x y
    · exact sp_Aa n x y _ _ _ _ w (fun w => spiral_any n w) (fun w => hds w) (fun w => unspiral_any x y w) (fun w => dunspiral_any x y w) (fun w => by have := check_any x y w; rwa [hok] at this) h1 
    · obtain ⟨⟨a1, a2⟩, a3, a4⟩ := okP_t hok
      obtain ⟨x', xm, xl⟩ := mod301 x
      obtain ⟨y', ym, yl⟩ := mod301 y
      by_cases c1 : 300 < x
      · exact sp_Ac n x y _ _ _ _ x' y' w (fun w => spiral_any n w) (fun w => hds w) (fun w => unspiral_any x' y' w) (fun w => dunspiral_any x' y' w) (fun w => by have := check_any x y w; rwa [hok] at this) h1 c1 xm ym xl yl
      · by_cases c2 : x < -300
        · exact sp_Ad n x y _ _ _ _ x' y' w (fun w => spiral_any n w) (fun w => hds w) (fun w => unspiral_any x' y' w) (fun w => dunspiral_any x' y' w) (fun w => by have := check_any x y w; rwa [hok] at this) h1 c2 xm ym xl yl
        · by_cases c3 : 300 < y
          · exact sp_Ae n x y _ _ _ _ x' y' w (fun w => spiral_any n w) (fun w => hds w) (fun w => unspiral_any x' y' w) (fun w => dunspiral_any x' y' w) (fun w => by have := check_any x y w; rwa [hok] at this) h1 (by omega) c3 xm ym xl yl
          · by_cases c4 : y < -300
            · exact sp_Af n x y _ _ _ _ x' y' w (fun w => spiral_any n w) (fun w => hds w) (fun w => unspiral_any x' y' w) (fun w => dunspiral_any x' y' w) (fun w => by have := check_any x y w; rwa [hok] at this) h1 (by omega) c4 xm ym xl yl
            · exact sp_Ab n x y _ _ _ _ w (fun w => spiral_any n w) (fun w => hds w) (fun w => unspiral_any x y w) (fun w => dunspiral_any x y w) (fun w => by have := check_any x y w; rwa [hok] at this) h1 (by omega) (by omega)
  · by_cases h2 : n ≤ 1099511627776
    · obtain ⟨n', hn', hl⟩ : ∃ n' : Int, n.tmod 20001 = n' ∧ (0 ≤ n' ∧ n' ≤ 20000) := by
        refine ⟨_, rfl, ?_⟩
        rw [Int.tmod_eq_emod_of_nonneg (by omega)]; omega
      have hds := fun w => dspiral_small n' hl.2 w
      cases hok : okP x y
      · exact sp_Ba n x y _ _ _ _ n' w (fun w => spiral_any n' w) (fun w => hds w) (fun w => unspiral_any x y w) (fun w => dunspiral_any x y w) (fun w => by have := check_any x y w; rwa [hok] at this) (by omega) h2 hn' hl 
      · obtain ⟨⟨a1, a2⟩, a3, a4⟩ := okP_t hok
        obtain ⟨x', xm, xl⟩ := mod301 x
        obtain ⟨y', ym, yl⟩ := mod301 y
        by_cases c1 : 300 < x
        · exact sp_Bc n x y _ _ _ _ n' x' y' w (fun w => spiral_any n' w) (fun w => hds w) (fun w => unspiral_any x' y' w) (fun w => dunspiral_any x' y' w) (fun w => by have := check_any x y w; rwa [hok] at this) (by omega) h2 hn' hl c1 xm ym xl yl
        · by_cases c2 : x < -300
          · exact sp_Bd n x y _ _ _ _ n' x' y' w (fun w => spiral_any n' w) (fun w => hds w) (fun w => unspiral_any x' y' w) (fun w => dunspiral_any x' y' w) (fun w => by have := check_any x y w; rwa [hok] at this) (by omega) h2 hn' hl c2 xm ym xl yl
          · by_cases c3 : 300 < y
            · exact sp_Be n x y _ _ _ _ n' x' y' w (fun w => spiral_any n' w) (fun w => hds w) (fun w => unspiral_any x' y' w) (fun w => dunspiral_any x' y' w) (fun w => by have := check_any x y w; rwa [hok] at this) (by omega) h2 hn' hl (by omega) c3 xm ym xl yl
            · by_cases c4 : y < -300
              · exact sp_Bf n x y _ _ _ _ n' x' y' w (fun w => spiral_any n' w) (fun w => hds w) (fun w => unspiral_any x' y' w) (fun w => dunspiral_any x' y' w) (fun w => by have := check_any x y w; rwa [hok] at this) (by omega) h2 hn' hl (by omega) c4 xm ym xl yl
              · exact sp_Bb n x y _ _ _ _ n' w (fun w => spiral_any n' w) (fun w => hds w) (fun w => unspiral_any x y w) (fun w => dunspiral_any x y w) (fun w => by have := check_any x y w; rwa [hok] at this) (by omega) h2 hn' hl (by omega) (by omega)
    · have hds : ∀ w, Calls Try.prog 31 #[.int .i64 n] w fun e w' => e = .returned (rvE (spA n)) ∧ Below w.heap.size w w' := fun w => by
        unfold spA; rw [if_neg (by omega)]; exact dspiral_big n w (by omega)
      cases hok : okP x y
      · exact sp_Ca n x y _ _ _ _ w (fun w => spiral_any n w) (fun w => hds w) (fun w => unspiral_any x y w) (fun w => dunspiral_any x y w) (fun w => by have := check_any x y w; rwa [hok] at this) (by omega) 
      · obtain ⟨⟨a1, a2⟩, a3, a4⟩ := okP_t hok
        obtain ⟨x', xm, xl⟩ := mod301 x
        obtain ⟨y', ym, yl⟩ := mod301 y
        by_cases c1 : 300 < x
        · exact sp_Cc n x y _ _ _ _ x' y' w (fun w => spiral_any n w) (fun w => hds w) (fun w => unspiral_any x' y' w) (fun w => dunspiral_any x' y' w) (fun w => by have := check_any x y w; rwa [hok] at this) (by omega) c1 xm ym xl yl
        · by_cases c2 : x < -300
          · exact sp_Cd n x y _ _ _ _ x' y' w (fun w => spiral_any n w) (fun w => hds w) (fun w => unspiral_any x' y' w) (fun w => dunspiral_any x' y' w) (fun w => by have := check_any x y w; rwa [hok] at this) (by omega) c2 xm ym xl yl
          · by_cases c3 : 300 < y
            · exact sp_Ce n x y _ _ _ _ x' y' w (fun w => spiral_any n w) (fun w => hds w) (fun w => unspiral_any x' y' w) (fun w => dunspiral_any x' y' w) (fun w => by have := check_any x y w; rwa [hok] at this) (by omega) (by omega) c3 xm ym xl yl
            · by_cases c4 : y < -300
              · exact sp_Cf n x y _ _ _ _ x' y' w (fun w => spiral_any n w) (fun w => hds w) (fun w => unspiral_any x' y' w) (fun w => dunspiral_any x' y' w) (fun w => by have := check_any x y w; rwa [hok] at this) (by omega) (by omega) c4 xm ym xl yl
              · exact sp_Cb n x y _ _ _ _ w (fun w => spiral_any n w) (fun w => hds w) (fun w => unspiral_any x y w) (fun w => dunspiral_any x y w) (fun w => by have := check_any x y w; rwa [hok] at this) (by omega) (by omega) (by omega)

end Go.Proofs.Ythodhabjcbohcaa
