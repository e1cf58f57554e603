/-
  The draws of chapter 4: each returns something, whatever the bytes are.
-/
import Derived.Test.YtpejcblmglbjfaaDrawPairs
import Derived.Test.YtpejcblmglbjfaaPairOwnDecl
namespace Go.Proofs.Ytpejcblmglbjfaa.draws
open Go.ChangeShapes Go.WideShapes Go.ChangeAt Go.RowKit
open pairs (Pair at0 PairsAt)
set_option linter.unusedVariables false
def uri4L : List ByteArray := [⟨#[117, 114, 110, 58, 117]⟩, ⟨#[117, 114, 110, 58, 118]⟩, ⟨#[117, 114, 110, 58, 119]⟩]
theorem uri4L_size : ∀ s ∈ uri4L, s.size ≤ 5 := by
  intro s hs
  simp only [uri4L, List.mem_cons, List.mem_nil_iff, or_false] at hs
  rcases hs with rfl | rfl | rfl <;> decide
theorem uri4_list (w : World) (cb len cap : Nat) (a : Option Addr) (hc : CurAt w cb a len cap) :
    Calls Try.prog 88 #[.pointer (some ⟨cb, 0, none⟩), .slice (some ⟨w.heap.size, 0, none⟩) 3 3] (w.alloc (.cells #[.string ⟨#[117, 114, 110, 58, 117]⟩, .string ⟨#[117, 114, 110, 58, 118]⟩, .string ⟨#[117, 114, 110, 58, 119]⟩] 9)) fun e w' => ∃ s, s ∈ uri4L ∧ e = .returned (.string s) ∧ CurAt w' cb a len cap ∧ ButFor cb w w' :=
  str_new w cb len cap 3 3 a uri4L _ 9 rfl rfl (by decide) (by decide) hc
def pre4L : List ByteArray := [⟨#[]⟩, ⟨#[112]⟩, ⟨#[113]⟩, ⟨#[114]⟩]
theorem pre4L_size : ∀ s ∈ pre4L, s.size ≤ 1 := by
  intro s hs
  simp only [pre4L, List.mem_cons, List.mem_nil_iff, or_false] at hs
  rcases hs with rfl | rfl | rfl | rfl <;> decide
theorem pre4_list (w : World) (cb len cap : Nat) (a : Option Addr) (hc : CurAt w cb a len cap) :
    Calls Try.prog 88 #[.pointer (some ⟨cb, 0, none⟩), .slice (some ⟨w.heap.size, 0, none⟩) 4 4] (w.alloc (.cells #[.string ⟨#[]⟩, .string ⟨#[112]⟩, .string ⟨#[113]⟩, .string ⟨#[114]⟩] 9)) fun e w' => ∃ s, s ∈ pre4L ∧ e = .returned (.string s) ∧ CurAt w' cb a len cap ∧ ButFor cb w w' :=
  str_new w cb len cap 4 4 a pre4L _ 9 rfl rfl (by decide) (by decide) hc
set_option maxRecDepth 100000 in
set_option maxHeartbeats 1000000 in
theorem l4uri (w : World) (cb len cap : Nat) (a : Option Addr) (HC : Hid (CurAt w cb a len cap)) : Calls Try.prog 109 #[.pointer (some ⟨cb, 0, none⟩)] w fun e w' => ∃ s : ByteArray, e = .returned (.string s) ∧ s.size ≤ 5 ∧ CurAt w' cb a len cap ∧ ButFor cb w w' := by
  go_enter Try.func109, Try.ntmps109
  go_wp2_with fail
  refine (uri4_list _ _ _ _ _ HC.out).mono ?_
  rintro e w1 ⟨s, hs, rfl, hc1, hb1⟩
  have hsz := uri4L_size s hs
  have HC1 : Hid _ := hc1
  have HB1 : Hid _ := hb1
  clear hc1 hb1 hs
  go_wp2
  go_ret
  exact ⟨s, rfl, hsz, HC1.out, HB1.out⟩
/-- A struct of two texts in a block of the call's own. -/
structure Box4 (w wr : World) (cb len cap : Nat) (a : Option Addr) (n u : ByteArray) : Prop where
  box : wr.heap[w.heap.size]? = some (.cells #[.string n, .string u] 84 (0, 0))
  cur : CurAt wr cb a len cap
  but : ButFor cb w wr
theorem Box4.new {w : World} {cb len cap : Nat} {a : Option Addr} (n u : ByteArray) (hc : CurAt w cb a len cap) : Box4 w (w.alloc (.cells #[.string n, .string u] 84)) cb len cap a n u := ⟨heap_alloc_new w _, hc.alloc _, (ButFor.refl _ _).alloc _⟩
theorem Box4.next {w wr w2 : World} {cb len cap : Nat} {a : Option Addr} {n u : ByteArray} (h : Box4 w wr cb len cap a n u) (h0 : cb < w.heap.size) (hc : CurAt w2 cb a len cap) (hb : ButFor cb wr w2) : Box4 w w2 cb len cap a n u :=
  ⟨(hb.block _ (pairs.lt_heap h.box) (by omega)).trans h.box, hc, h.but.trans hb⟩
theorem set_other {w : World} {b o : Nat} {u : Value} {k : Nat} (h : k < b) : (w.setCell ⟨b, o, none⟩ u).heap[k]? = w.heap[k]? := Below.heap_setCell w ⟨b, o, none⟩ u k (by show k ≠ b; omega)
theorem Box4.set {w wr : World} {cb len cap : Nat} {a : Option Addr} {n u : ByteArray} (h : Box4 w wr cb len cap a n u) (h0 : CurAt w cb a len cap) (n' u' : ByteArray) : Box4 w ((wr.setCell ⟨w.heap.size, 0, none⟩ (.string n')).setCell ⟨w.heap.size, 1, none⟩ (.string u')) cb len cap a n' u' :=
  ⟨pairs.block_set _ (pairs.block_set _ h.box), h0.keeps h.cur (by simp [World.setCell]) (fun k hk => (set_other hk).trans (set_other hk)), h.but.keeps (by simp [World.setCell]) (fun k hk => (set_other hk).trans (set_other hk)) rfl rfl rfl⟩
theorem Box4.set1 {w wr : World} {cb len cap : Nat} {a : Option Addr} {n u : ByteArray} (h : Box4 w wr cb len cap a n u) (h0 : CurAt w cb a len cap) (u' : ByteArray) : Box4 w (wr.setCell ⟨w.heap.size, 1, none⟩ (.string u')) cb len cap a n u' :=
  ⟨pairs.block_set _ h.box, h0.keeps h.cur (by simp [World.setCell]) (fun k hk => set_other hk), h.but.keeps (by simp [World.setCell]) (fun k hk => set_other hk) rfl rfl rfl⟩
theorem Box4.apart {w wr : World} {cb len cap b : Nat} {a : Option Addr} {n u : ByteArray} (h : Box4 w wr cb len cap a n u) (h0 : CurAt w cb a len cap) (hcb : cb < w.heap.size) (hb : w.heap.size < b) (v : Value) : Box4 w (wr.setCell ⟨b, 1, none⟩ v) cb len cap a n u :=
  ⟨(set_other hb).trans h.box, h0.keeps h.cur (by simp [World.setCell]) (fun k hk => set_other (by omega)), h.but.keeps (by simp [World.setCell]) (fun k hk => set_other (by omega)) rfl rfl rfl⟩
theorem Box4.cells {w wr : World} {cb len cap : Nat} {a : Option Addr} {n u : ByteArray} (h : Box4 w wr cb len cap a n u) : wr.cell? ⟨w.heap.size, 0, none⟩ = some (.string n) ∧ wr.cell? ⟨w.heap.size, 1, none⟩ = some (.string u) ∧ wr.frozen? ⟨w.heap.size, 0, none⟩ = false ∧ wr.frozen? ⟨w.heap.size, 1, none⟩ = false :=
  ⟨by simp [World.cell?, h.box], by simp [World.cell?, h.box], by simp [World.frozen?, h.box], by simp [World.frozen?, h.box]⟩
theorem but_cells {cb : Nat} {w w' : World} {n u : ByteArray} {t : TypeId} (hcb : cb < w.heap.size) (hb : ButFor cb (w.alloc (.cells #[.string n, .string u] t)) w') : w'.heap[w.heap.size]? = some (.cells #[.string n, .string u] t (0, 0)) :=
  (hb.block w.heap.size (by simp) (by omega)).trans (heap_alloc_new w _)
theorem two_cells {w : World} {b : Nat} {n u : ByteArray} {t : TypeId} (h : w.heap[b]? = some (.cells #[.string n, .string u] t (0, 0))) : w.cell? ⟨b, 0, none⟩ = some (.string n) ∧ w.cell? ⟨b, 1, none⟩ = some (.string u) ∧ w.frozen? ⟨b, 1, none⟩ = false := ⟨by simp [World.cell?, h], by simp [World.cell?, h], by simp [World.frozen?, h]⟩
theorem pre4_box (w : World) (cb len cap : Nat) (a : Option Addr) (hc : CurAt w cb a len cap) :
    Calls Try.prog 88 #[.pointer (some ⟨cb, 0, none⟩), .slice (some ⟨w.heap.size + 1, 0, none⟩) 4 4] ((w.alloc (.cells #[.string ⟨#[]⟩, .string ⟨#[]⟩] 84)).alloc (.cells #[.string ⟨#[]⟩, .string ⟨#[112]⟩, .string ⟨#[113]⟩, .string ⟨#[114]⟩] 9)) fun e w' => ∃ s, s ∈ pre4L ∧ e = .returned (.string s) ∧ Box4 w w' cb len cap a ⟨#[]⟩ ⟨#[]⟩ := by
  have h := pre4_list (w.alloc (.cells #[.string ⟨#[]⟩, .string ⟨#[]⟩] 84)) cb len cap a (hc.alloc _)
  rw [World.size_alloc] at h
  exact h.mono fun e w' ⟨s, hs, he, hc', hb'⟩ => ⟨s, hs, he, (Box4.new _ _ hc).next hc.here hc' hb'⟩
set_option maxRecDepth 100000 in
set_option maxHeartbeats 1000000 in
theorem l4decl (w : World) (cb len cap : Nat) (a : Option Addr) (HC : Hid (CurAt w cb a len cap)) : Calls Try.prog 106 #[.pointer (some ⟨cb, 0, none⟩)] w fun e w' => ∃ n u : ByteArray, e = .returned (.agg #[.string n, .string u]) ∧ n.size ≤ 1 ∧ u.size ≤ 5 ∧ CurAt w' cb a len cap ∧ ButFor cb w w' := by
  have H0 : Hid (cb < w.heap.size) := HC.out.here
  go_enter Try.func106, Try.ntmps106
  go_wp2_with fail
  refine (pre4_box w cb len cap a HC.out).mono ?_
  rintro e w1 ⟨n, hn, rfl, hx1⟩
  have hnz := pre4L_size n hn
  have HX1 : Hid _ := hx1
  clear hx1 hn
  go_wp2_with fail
  refine (l4uri _ _ _ _ _ HX1.out.cur).mono ?_
  rintro e w2 ⟨u, rfl, huz, hc2, hb2⟩
  have hcu := hc2.alloc (.cells #[.string n, .string u] 84)
  have HX2 : Hid _ := (HX1.out.next H0.out hc2 hb2).next H0.out hcu ((ButFor.refl _ _).alloc _)
  have HCU : Hid _ := hcu
  have HC2 : Hid (cb < w2.heap.size) := hc2.here
  obtain ⟨k0, k1, f0, f1⟩ := HX2.out.cells
  have HW12 : Hid (w1.heap.size ≤ w2.heap.size) := hb2.size
  clear hc2 hb2 hcu
  cases hne : n.toList.isEmpty
  · have HX3 : Hid _ := HX2.out.set HC.out n u
    go_wp2
    obtain ⟨z0, z1, _, _⟩ := HX3.out.cells
    refine bodyPost_ret (by simp [results, Try.results106, go_sem, z0, z1]; try rfl) rfl ?_
    exact ⟨n, u, rfl, hnz, huz, HX3.out.cur, HX3.out.but⟩
  · go_wp2_with fail
    refine (once_any _ _ _ _ _ _ (by omega) HCU.out).mono ?_
    rintro e w3 ⟨q, rfl, hc3, hb3⟩
    have HX4 : Hid _ := HX2.out.next H0.out hc3 hb3
    have hbox := but_cells HC2.out hb3
    clear k0 k1 f0 f1 hc3 hb3
    obtain ⟨d0, d1, e1⟩ := two_cells hbox
    cases q
    · obtain ⟨k0, k1, f0, f1⟩ := HX4.out.cells
      have HX5 : Hid _ := HX4.out.set HC.out n u
      clear hbox
      go_wp2
      obtain ⟨z0, z1, _, _⟩ := HX5.out.cells
      refine bodyPost_ret (by simp [results, Try.results106, go_sem, z0, z1]; try rfl) rfl ?_
      exact ⟨n, u, rfl, hnz, huz, HX5.out.cur, HX5.out.but⟩
    · have HX5 : Hid (Box4 w (w3.setCell ⟨w2.heap.size, 1, none⟩ (.string ⟨#[]⟩)) cb len cap a ⟨#[]⟩ ⟨#[]⟩) := HX4.out.apart HC.out H0.out (Nat.lt_of_lt_of_le (pairs.lt_heap HX1.out.box) HW12.out) _
      obtain ⟨k0, k1, f0, f1⟩ := HX5.out.cells
      have hne2 : ¬ w2.heap.size = w.heap.size := by have := pairs.lt_heap HX1.out.box; have := HW12.out; omega
      have hne3 : ¬ w.heap.size = w2.heap.size := fun e => hne2 e.symm
      have HX6 : Hid _ := HX5.out.set HC.out n ⟨#[]⟩
      clear hbox
      go_wp2
      obtain ⟨z0, z1, _, _⟩ := HX6.out.cells
      refine bodyPost_ret (by simp [results, Try.results106, go_sem, z0, z1]; try rfl) rfl ?_
      exact ⟨n, ⟨#[]⟩, rfl, hnz, by decide, HX6.out.cur, HX6.out.but⟩
end Go.Proofs.Ytpejcblmglbjfaa.draws
