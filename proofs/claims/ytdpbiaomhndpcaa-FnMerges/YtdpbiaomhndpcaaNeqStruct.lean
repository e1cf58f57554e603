/-
  '!=' between two structs of texts.
-/
import Derived.Test.YtdpbiaomhndpcaaRows
import Derived.Laws.StructEq
import Derived.WalkKit
namespace Go.Proofs.Ytdpbiaomhndpcaa.trees
open Go.RowKit
set_option linter.unusedVariables false
set_option linter.unusedSimpArgs false
set_option maxRecDepth 100000 in
theorem neq_decl (w : World) (n v n' v' : ByteArray) : (binOp .neq 55 (.agg #[.string n, .string v]) (.agg #[.string n', .string v'])).run Try.prog w = .ok (.bool (!((n.toList == n'.toList) && (v.toList == v'.toList)))) w := by
  have hu : Try.prog.underlying 55 = some (.struct (Try.prog.fieldsOf 55)) := by kernel_rfl
  have hp : Try.prog.stoodInHeld 55 = false := by kernel_rfl
  rw [run_neq_struct, show (10000 : Nat) = 9999 + 1 from rfl, run_equalIn_agg _ _ _ _ _ hu hp]
  obtain ⟨f0, f1, hf, o0, o1, t0, t1, m0, m1⟩ : ∃ f0 f1 : Field, (Try.prog.fieldsOf 55).toList = [f0, f1] ∧ f0.offset = 0 ∧ f1.offset = 1 ∧ f0.type = 9 ∧ f1.type = 9 ∧ f0.name ≠ "_" ∧ f1.name ≠ "_" := ⟨_, _, rfl, rfl, rfl, rfl, rfl, by decide, by decide⟩
  have e0 : ∀ (a0 a1 : ByteArray) (w : World), (part 9 #[.string a0, .string a1] 0).run Try.prog w = .ok (.string a0) w := fun a0 a1 w => by simp [go_sem]; try rfl
  have e1 : ∀ (a0 a1 : ByteArray) (w : World), (part 9 #[.string a0, .string a1] 1).run Try.prog w = .ok (.string a1) w := fun a0 a1 w => by simp [go_sem]; try rfl
  have q : ∀ (a b : ByteArray) (w : World), (Op.equalIn 9999 9 (.string a) (.string b)).run Try.prog w = .ok (a.toList == b.toList) w := fun a b w => run_equalIn_string w 9998 9 a b Try.underlying9
  rw [hf]
  simp only [Op.eqFields, ne_eq, m0, m1, not_false_eq_true, if_true, o0, o1, t0, t1, Sem.run_bind, e0, q, Result.andThen_ok]
  cases h0 : (n.toList == n'.toList) <;> cases h1 : (v.toList == v'.toList) <;> simp [e1, q, h1]
theorem guard_decl (w : World) (op : BinOp) (x y : Operand) (xs ys : Array Value) : (eqGuard op 55 x y (.agg xs) (.agg ys)).run Try.prog w = .ok () w := run_eqGuard_agg _ _ _ _ _ _ _ (by kernel_rfl)
set_option maxRecDepth 100000 in
theorem neq_att (w : World) (n l u v n' l' u' v' : ByteArray) : (binOp .neq 51 (.agg #[.string n, .string l, .string u, .string v]) (.agg #[.string n', .string l', .string u', .string v'])).run Try.prog w = .ok (.bool (!((n.toList == n'.toList) && ((l.toList == l'.toList) && ((u.toList == u'.toList) && (v.toList == v'.toList)))))) w := by
  have hu : Try.prog.underlying 51 = some (.struct (Try.prog.fieldsOf 51)) := by kernel_rfl
  have hp : Try.prog.stoodInHeld 51 = false := by kernel_rfl
  rw [run_neq_struct, show (10000 : Nat) = 9999 + 1 from rfl, run_equalIn_agg _ _ _ _ _ hu hp]
  obtain ⟨f0, f1, f2, f3, hf, o0, o1, o2, o3, t0, t1, t2, t3, m0, m1, m2, m3⟩ : ∃ f0 f1 f2 f3 : Field, (Try.prog.fieldsOf 51).toList = [f0, f1, f2, f3] ∧ f0.offset = 0 ∧ f1.offset = 1 ∧ f2.offset = 2 ∧ f3.offset = 3 ∧ f0.type = 9 ∧ f1.type = 9 ∧ f2.type = 9 ∧ f3.type = 9 ∧ f0.name ≠ "_" ∧ f1.name ≠ "_" ∧ f2.name ≠ "_" ∧ f3.name ≠ "_" := ⟨_, _, _, _, rfl, rfl, rfl, rfl, rfl, rfl, rfl, rfl, rfl, by decide, by decide, by decide, by decide⟩
  have e0 : ∀ (a0 a1 a2 a3 : ByteArray) (w : World), (part 9 #[.string a0, .string a1, .string a2, .string a3] 0).run Try.prog w = .ok (.string a0) w := fun a0 a1 a2 a3 w => by simp [go_sem]; try rfl
  have e1 : ∀ (a0 a1 a2 a3 : ByteArray) (w : World), (part 9 #[.string a0, .string a1, .string a2, .string a3] 1).run Try.prog w = .ok (.string a1) w := fun a0 a1 a2 a3 w => by simp [go_sem]; try rfl
  have e2 : ∀ (a0 a1 a2 a3 : ByteArray) (w : World), (part 9 #[.string a0, .string a1, .string a2, .string a3] 2).run Try.prog w = .ok (.string a2) w := fun a0 a1 a2 a3 w => by simp [go_sem]; try rfl
  have e3 : ∀ (a0 a1 a2 a3 : ByteArray) (w : World), (part 9 #[.string a0, .string a1, .string a2, .string a3] 3).run Try.prog w = .ok (.string a3) w := fun a0 a1 a2 a3 w => by simp [go_sem]; try rfl
  have q : ∀ (a b : ByteArray) (w : World), (Op.equalIn 9999 9 (.string a) (.string b)).run Try.prog w = .ok (a.toList == b.toList) w := fun a b w => run_equalIn_string w 9998 9 a b Try.underlying9
  rw [hf]
  simp only [Op.eqFields, ne_eq, m0, m1, m2, m3, not_false_eq_true, if_true, o0, o1, o2, o3, t0, t1, t2, t3, Sem.run_bind, e0, q, Result.andThen_ok]
  cases h0 : (n.toList == n'.toList) <;> cases h1 : (l.toList == l'.toList) <;> cases h2 : (u.toList == u'.toList) <;> cases h3 : (v.toList == v'.toList) <;> simp [e1, e2, e3, q, h1, h2, h3]
theorem guard_att (w : World) (op : BinOp) (x y : Operand) (xs ys : Array Value) : (eqGuard op 51 x y (.agg xs) (.agg ys)).run Try.prog w = .ok () w := run_eqGuard_agg _ _ _ _ _ _ _ (by kernel_rfl)
end Go.Proofs.Ytdpbiaomhndpcaa.trees
