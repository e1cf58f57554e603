/-
  What SignText answers, of the specification and of the program: the bytes of a sign's UTF-8, or nothing.
-/
import Derived.Test.YtmiiilamjbhheaaGreatDoorRows
import Derived.Test.YtmiiilamjbhheaaGreatDoorPlain
import Derived.WalkKit
import Derived.ProofKit
import Derived.Laws.BytesArg
import Derived.Below
namespace Go.Proofs.YtmiiilamjbhheaaGreatDoor.texts
open Go.ChangeShapes Go.WideShapes Go.ChangeAt Go.RowKit

/-! ### The program's -/
set_option maxHeartbeats 400000 in
theorem impl_no (n : Int) (h : n < 0 ∨ (55296 ≤ n ∧ n ≤ 57343) ∨ 1114111 < n) (w : World) : Calls Tryz.prog 121 #[.int .i64 n] w fun e w' => e = .returned (.string ⟨#[]⟩) ∧ w' = w := by
  rcases h with h | ⟨h, h1⟩ | h
  · go_enter Tryz.func121, Tryz.ntmps121
    go_wp2
    go_ret
    exact ⟨rfl, rfl⟩
  · have h2 : 0 ≤ n := by omega
    have h3 : n ≤ 1114111 := by omega
    go_enter Tryz.func121, Tryz.ntmps121
    go_wp2
    go_ret
    exact ⟨rfl, rfl⟩
  · have h2 : 0 ≤ n := by omega
    go_enter Tryz.func121, Tryz.ntmps121
    go_wp2
    go_ret
    exact ⟨rfl, rfl⟩
set_option maxHeartbeats 400000 in
theorem impl_lo (n : Int) (h : 0 ≤ n) (h1 : n < 55296) (w : World) : Calls Tryz.prog 121 #[.int .i64 n] w fun e w' => e = .returned (.string (Utf8.encode n)) ∧ w' = w := by
  go_enter Tryz.func121, Tryz.ntmps121
  go_wp2
  go_ret
  exact ⟨rfl, rfl⟩
set_option maxHeartbeats 400000 in
theorem impl_hi (n : Int) (h : 57343 < n) (h1 : n ≤ 1114111) (w : World) : Calls Tryz.prog 121 #[.int .i64 n] w fun e w' => e = .returned (.string (Utf8.encode n)) ∧ w' = w := by
  have h2 : 0 ≤ n := by omega
  have h3 : 55296 ≤ n := by omega
  go_enter Tryz.func121, Tryz.ntmps121
  go_wp2
  go_ret
  exact ⟨rfl, rfl⟩
/-- The program's SignText, at every number. -/
theorem impl_any (n : Int) (w : World) : Calls Tryz.prog 121 #[.int .i64 n] w fun e w' => e = .returned (.string (stx n)) ∧ w' = w := by
  by_cases h : n < 0 ∨ (55296 ≤ n ∧ n ≤ 57343) ∨ 1114111 < n
  · rw [stx_no h]; exact impl_no n h w
  · by_cases h1 : n < 55296
    · rw [stx_yes (valid_lo (by omega) h1)]; exact impl_lo n (by omega) h1 w
    · rw [stx_yes (valid_hi (by omega) (by omega))]; exact impl_hi n (by omega) (by omega) w

end Go.Proofs.YtmiiilamjbhheaaGreatDoor.texts
