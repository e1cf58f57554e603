/-
  What the program's shapes are, and what a node has besides its shape.
-/
import Derived.Test.YtmiiilamjbhheaaGreatDoorNodeRight
import Derived.Handy
import Derived.Deep.RegionWith
namespace Go.Proofs.YtmiiilamjbhheaaGreatDoor.trees
open Go.ChangeShapes Go.WideShapes Go.ChangeAt Go.RowKit
open pairs (Pair at0 PairsAt)
open scopes (ret_bool)
set_option linter.unusedVariables false
set_option maxRecDepth 100000 in
set_option maxHeartbeats 2000000 in
theorem shape_whole (p l u x : ByteArray) (nd na nk : Nat) (h : Hdr) (w : World) : Calls Tryz.prog 48 #[.agg #[.int .i64 0, .string p, .string l, .string u, .slice h.da nd h.dc, .slice h.aa na h.ac, .slice h.ka nk h.kc, .string x]] w fun e w' => e = .returned (.tuple #[.iface 94 (.agg #[.slice h.ka nk h.kc]), .bool true]) ∧ Below w.heap.size w w' := by
  go_enter Tryz.func48, Tryz.ntmps48
  go_wp2
  go_ret2
  exact ⟨rfl, (Below.refl _ _).alloc (Nat.le_refl _) _⟩
set_option maxRecDepth 100000 in
set_option maxHeartbeats 2000000 in
theorem node_whole (p l u x : ByteArray) (nd na nk : Nat) (h : Hdr) (w : World) : Calls Tryz.prog 156 #[.agg #[.slice h.ka nk h.kc]] w fun e w' => e = .returned (.agg #[.int .i64 0, .string ⟨#[]⟩, .string ⟨#[]⟩, .string ⟨#[]⟩, .slice none 0 0, .slice none 0 0, .slice h.ka nk h.kc, .string ⟨#[]⟩]) ∧ Below w.heap.size w w' := by
  go_enter Tryz.func156, Tryz.ntmps156
  go_wp2
  refine bodyPost_ret (by simp [results, Tryz.results156, go_sem]; try rfl) rfl ?_
  exact ⟨rfl, ((Below.refl _ _).alloc (Nat.le_refl _) _).alloc (by simp) _⟩
set_option maxRecDepth 100000 in
set_option maxHeartbeats 2000000 in
theorem shape_el (p l u x : ByteArray) (nd na nk : Nat) (h : Hdr) (w : World) : Calls Tryz.prog 48 #[.agg #[.int .i64 1, .string p, .string l, .string u, .slice h.da nd h.dc, .slice h.aa na h.ac, .slice h.ka nk h.kc, .string x]] w fun e w' => e = .returned (.tuple #[.iface 97 (.agg #[.string p, .string l, .string u, .slice h.da nd h.dc, .slice h.aa na h.ac, .slice h.ka nk h.kc]), .bool true]) ∧ Below w.heap.size w w' := by
  go_enter Tryz.func48, Tryz.ntmps48
  go_wp2
  go_ret2
  exact ⟨rfl, (Below.refl _ _).alloc (Nat.le_refl _) _⟩
set_option maxRecDepth 100000 in
set_option maxHeartbeats 2000000 in
theorem node_el (p l u x : ByteArray) (nd na nk : Nat) (h : Hdr) (w : World) : Calls Tryz.prog 157 #[.agg #[.string p, .string l, .string u, .slice h.da nd h.dc, .slice h.aa na h.ac, .slice h.ka nk h.kc]] w fun e w' => e = .returned (.agg #[.int .i64 1, .string p, .string l, .string u, .slice h.da nd h.dc, .slice h.aa na h.ac, .slice h.ka nk h.kc, .string ⟨#[]⟩]) ∧ Below w.heap.size w w' := by
  go_enter Tryz.func157, Tryz.ntmps157
  go_wp2
  refine bodyPost_ret (by simp [results, Tryz.results157, go_sem]; try rfl) rfl ?_
  exact ⟨rfl, ((Below.refl _ _).alloc (Nat.le_refl _) _).alloc (by simp) _⟩
set_option maxRecDepth 100000 in
set_option maxHeartbeats 2000000 in
theorem shape_text (p l u x : ByteArray) (nd na nk : Nat) (h : Hdr) (w : World) : Calls Tryz.prog 48 #[.agg #[.int .i64 2, .string p, .string l, .string u, .slice h.da nd h.dc, .slice h.aa na h.ac, .slice h.ka nk h.kc, .string x]] w fun e w' => e = .returned (.tuple #[.iface 100 (.agg #[.string x]), .bool true]) ∧ Below w.heap.size w w' := by
  go_enter Tryz.func48, Tryz.ntmps48
  go_wp2
  go_ret2
  exact ⟨rfl, (Below.refl _ _).alloc (Nat.le_refl _) _⟩
set_option maxRecDepth 100000 in
set_option maxHeartbeats 2000000 in
theorem node_text (p l u x : ByteArray) (nd na nk : Nat) (h : Hdr) (w : World) : Calls Tryz.prog 158 #[.agg #[.string x]] w fun e w' => e = .returned (.agg #[.int .i64 2, .string ⟨#[]⟩, .string ⟨#[]⟩, .string ⟨#[]⟩, .slice none 0 0, .slice none 0 0, .slice none 0 0, .string x]) ∧ Below w.heap.size w w' := by
  go_enter Tryz.func158, Tryz.ntmps158
  go_wp2
  refine bodyPost_ret (by simp [results, Tryz.results158, go_sem]; try rfl) rfl ?_
  exact ⟨rfl, ((Below.refl _ _).alloc (Nat.le_refl _) _).alloc (by simp) _⟩
set_option maxRecDepth 100000 in
set_option maxHeartbeats 2000000 in
theorem shape_note (p l u x : ByteArray) (nd na nk : Nat) (h : Hdr) (w : World) : Calls Tryz.prog 48 #[.agg #[.int .i64 3, .string p, .string l, .string u, .slice h.da nd h.dc, .slice h.aa na h.ac, .slice h.ka nk h.kc, .string x]] w fun e w' => e = .returned (.tuple #[.iface 101 (.agg #[.string x]), .bool true]) ∧ Below w.heap.size w w' := by
  go_enter Tryz.func48, Tryz.ntmps48
  go_wp2
  go_ret2
  exact ⟨rfl, (Below.refl _ _).alloc (Nat.le_refl _) _⟩
set_option maxRecDepth 100000 in
set_option maxHeartbeats 2000000 in
theorem node_note (p l u x : ByteArray) (nd na nk : Nat) (h : Hdr) (w : World) : Calls Tryz.prog 159 #[.agg #[.string x]] w fun e w' => e = .returned (.agg #[.int .i64 3, .string ⟨#[]⟩, .string ⟨#[]⟩, .string ⟨#[]⟩, .slice none 0 0, .slice none 0 0, .slice none 0 0, .string x]) ∧ Below w.heap.size w w' := by
  go_enter Tryz.func159, Tryz.ntmps159
  go_wp2
  refine bodyPost_ret (by simp [results, Tryz.results159, go_sem]; try rfl) rfl ?_
  exact ⟨rfl, ((Below.refl _ _).alloc (Nat.le_refl _) _).alloc (by simp) _⟩
set_option maxRecDepth 100000 in
set_option maxHeartbeats 2000000 in
theorem shape_told (p l u x : ByteArray) (nd na nk : Nat) (h : Hdr) (w : World) : Calls Tryz.prog 48 #[.agg #[.int .i64 4, .string p, .string l, .string u, .slice h.da nd h.dc, .slice h.aa na h.ac, .slice h.ka nk h.kc, .string x]] w fun e w' => e = .returned (.tuple #[.iface 103 (.agg #[.string l, .string x]), .bool true]) ∧ Below w.heap.size w w' := by
  go_enter Tryz.func48, Tryz.ntmps48
  go_wp2
  go_ret2
  exact ⟨rfl, (Below.refl _ _).alloc (Nat.le_refl _) _⟩
set_option maxRecDepth 100000 in
set_option maxHeartbeats 2000000 in
theorem node_told (p l u x : ByteArray) (nd na nk : Nat) (h : Hdr) (w : World) : Calls Tryz.prog 160 #[.agg #[.string l, .string x]] w fun e w' => e = .returned (.agg #[.int .i64 4, .string ⟨#[]⟩, .string l, .string ⟨#[]⟩, .slice none 0 0, .slice none 0 0, .slice none 0 0, .string x]) ∧ Below w.heap.size w w' := by
  go_enter Tryz.func160, Tryz.ntmps160
  go_wp2
  refine bodyPost_ret (by simp [results, Tryz.results160, go_sem]; try rfl) rfl ?_
  exact ⟨rfl, ((Below.refl _ _).alloc (Nat.le_refl _) _).alloc (by simp) _⟩
set_option maxRecDepth 100000 in
set_option maxHeartbeats 2000000 in
theorem shape_none (k : Int) (p l u x : ByteArray) (nd na nk : Nat) (h : Hdr) (w : World) (h0 : (k == 0) = false) (h1 : (k == 1) = false) (h2 : (k == 2) = false) (h3 : (k == 3) = false) (h4 : (k == 4) = false) : Calls Tryz.prog 48 #[.agg #[.int .i64 k, .string p, .string l, .string u, .slice h.da nd h.dc, .slice h.aa na h.ac, .slice h.ka nk h.kc, .string x]] w fun e w' => e = .returned (.tuple #[.nilIface, .bool false]) ∧ Below w.heap.size w w' := by
  go_enter Tryz.func48, Tryz.ntmps48
  go_wp2
  go_ret2
  exact ⟨rfl, (Below.refl _ _).alloc (Nat.le_refl _) _⟩
theorem lt_eq_self (p : ByteArray) : (p.toList == p.toList) = true := by simp
theorem lt_eq_none (p : ByteArray) : (p.toList == (⟨#[]⟩ : ByteArray).toList) = p.toList.isEmpty := by
  rw [ByteArray.toList_eq (⟨#[]⟩ : ByteArray)]
  cases p.toList <;> rfl
set_option maxRecDepth 100000 in
set_option maxHeartbeats 4000000 in
theorem nothing_else (k k' : Int) (p l u x p' l' u' x' : ByteArray) (nd na nk nd' na' nk' : Nat) (h h' : Hdr) (b : Bool) (hb : ((p.toList == p'.toList) && ((l.toList == l'.toList) && ((u.toList == u'.toList) && ((x.toList == x'.toList) && (((nd : Int) == (nd' : Int)) && (((na : Int) == (na' : Int)) && ((nk : Int) == (nk' : Int)))))))) = b) (w : World) : Calls Tryz.prog 74 #[.agg #[.int .i64 k, .string p, .string l, .string u, .slice h.da nd h.dc, .slice h.aa na h.ac, .slice h.ka nk h.kc, .string x], .agg #[.int .i64 k', .string p', .string l', .string u', .slice h'.da nd' h'.dc, .slice h'.aa na' h'.ac, .slice h'.ka nk' h'.kc, .string x']] w fun e w' => e = .returned (.bool b) ∧ Below w.heap.size w w' := by
  have HF : Hid (((p.toList == p'.toList) && ((l.toList == l'.toList) && ((u.toList == u'.toList) && ((x.toList == x'.toList) && (((nd : Int) == (nd' : Int)) && (((na : Int) == (na' : Int)) && ((nk : Int) == (nk' : Int)))))))) = b) := hb
  clear hb
  cases z1 : (p.toList == p'.toList)
  · rw [z1] at HF
    go_enter Tryz.func74, Tryz.ntmps74
    go_wp2_with fail
    go_ret
    exact ⟨ret_bool HF.out, ((Below.refl _ _).alloc (Nat.le_refl _) _).alloc (by simp) _⟩
  · rw [z1] at HF
    cases z2 : (l.toList == l'.toList)
    · rw [z2] at HF
      go_enter Tryz.func74, Tryz.ntmps74
      go_wp2_with fail
      go_ret
      exact ⟨ret_bool HF.out, ((Below.refl _ _).alloc (Nat.le_refl _) _).alloc (by simp) _⟩
    · rw [z2] at HF
      cases z3 : (u.toList == u'.toList)
      · rw [z3] at HF
        go_enter Tryz.func74, Tryz.ntmps74
        go_wp2_with fail
        go_ret
        exact ⟨ret_bool HF.out, ((Below.refl _ _).alloc (Nat.le_refl _) _).alloc (by simp) _⟩
      · rw [z3] at HF
        cases z4 : (x.toList == x'.toList)
        · rw [z4] at HF
          go_enter Tryz.func74, Tryz.ntmps74
          go_wp2_with fail
          go_ret
          exact ⟨ret_bool HF.out, ((Below.refl _ _).alloc (Nat.le_refl _) _).alloc (by simp) _⟩
        · rw [z4] at HF
          cases z5 : ((nd : Int) == (nd' : Int))
          · rw [z5] at HF
            go_enter Tryz.func74, Tryz.ntmps74
            go_wp2_with fail
            go_ret
            exact ⟨ret_bool HF.out, ((Below.refl _ _).alloc (Nat.le_refl _) _).alloc (by simp) _⟩
          · rw [z5] at HF
            cases z6 : ((na : Int) == (na' : Int))
            · rw [z6] at HF
              go_enter Tryz.func74, Tryz.ntmps74
              go_wp2_with fail
              go_ret
              exact ⟨ret_bool HF.out, ((Below.refl _ _).alloc (Nat.le_refl _) _).alloc (by simp) _⟩
            · rw [z6] at HF
              cases z7 : ((nk : Int) == (nk' : Int))
              · rw [z7] at HF
                go_enter Tryz.func74, Tryz.ntmps74
                go_wp2_with fail
                go_ret
                exact ⟨ret_bool HF.out, ((Below.refl _ _).alloc (Nat.le_refl _) _).alloc (by simp) _⟩
              · rw [z7] at HF
                go_enter Tryz.func74, Tryz.ntmps74
                go_wp2_with fail
                go_ret
                exact ⟨ret_bool HF.out, ((Below.refl _ _).alloc (Nat.le_refl _) _).alloc (by simp) _⟩
set_option maxRecDepth 100000 in
set_option maxHeartbeats 4000000 in
theorem alone_whole (p l u x : ByteArray) (nd na nk : Nat) (h : Hdr) (b1 b2 : Bool) (w : World) (H1 : ∀ W, Calls Tryz.prog 74 #[.agg #[.int .i64 0, .string p, .string l, .string u, .slice h.da nd h.dc, .slice h.aa na h.ac, .slice h.ka nk h.kc, .string x], .agg #[.int .i64 0, .string ⟨#[]⟩, .string ⟨#[]⟩, .string ⟨#[]⟩, .slice none 0 0, .slice none 0 0, .slice h.ka nk h.kc, .string ⟨#[]⟩]] W fun e w' => e = .returned (.bool b1) ∧ Below W.heap.size W w')
    (H2 : ∀ W, Below w.heap.size w W → Calls Tryz.prog 75 #[.iface 94 (.agg #[.slice h.ka nk h.kc])] W fun e w' => e = .returned (.bool b2) ∧ Below W.heap.size W w') :
    Calls Tryz.prog 57 #[.agg #[.int .i64 0, .string p, .string l, .string u, .slice h.da nd h.dc, .slice h.aa na h.ac, .slice h.ka nk h.kc, .string x]] w fun e w' => e = .returned (.bool (b1 && b2)) ∧ Below w.heap.size w w' := by
  have HH1 : Hid (∀ W, _) := H1
  have HH2 : Hid (∀ W, Below w.heap.size w W → _) := H2
  have HSH : Hid (∀ W, _) := shape_whole p l u x nd na nk h
  have HND : Hid (∀ W, _) := node_whole p l u x nd na nk h
  have hm : ∀ W : World, (method 283 94 (.agg #[.slice h.ka nk h.kc]) "loop.example/g00484/impl.node").run Tryz.prog W = .ok (156, .agg #[.slice h.ka nk h.kc]) W := fun _ => by kernel_rfl
  clear H1 H2
  go_enter Tryz.func57, Tryz.ntmps57
  go_wp2_with fail
  refine (HSH.out _).mono ?_
  rintro e w1 ⟨rfl, hb1⟩
  have HX : Hid _ := box_kept hb1
  have HB : Hid _ := box_under hb1
  clear hb1
  have HC : Hid (∀ W, Below w1.heap.size w1 W → _) := fun W hW => box8 ((hW.block _ (pairs.lt_heap HX.out)).trans HX.out)
  cases b1
  · go_wp2_with fail
    refine quiets.wp_region_below (by kernel_rfl) (by kernel_rfl) ?_
    repeat (go_big_quiet_step ((first | (intro hq; rfl) | (intro hq; simp [go_sem, HC.out _ hq]; rfl) | (intro hq; exact quiets.below_call (HND.out _) hq) | (intro hq; exact quiets.below_call (HH1.out _) hq))))
    refine wpQuiet_nil ?_
    intro w6 hb6
    have HB6 : Hid _ := HB.out.trans (hb6.mono HB.out.size)
    clear hb6
    go_wp2
    go_ret
    exact ⟨rfl, HB6.out⟩
  · go_wp2_with fail
    refine quiets.wp_region_below (by kernel_rfl) (by kernel_rfl) ?_
    repeat (go_big_quiet_step ((first | (intro hq; rfl) | (intro hq; simp [go_sem, HC.out _ hq]; rfl) | (intro hq; exact quiets.below_call (HND.out _) hq) | (intro hq; exact quiets.below_call (HH1.out _) hq) | (intro hq; exact quiets.below_call (HH2.out _ (HB.out.trans (hq.mono HB.out.size))) hq))))
    refine wpQuiet_nil ?_
    intro w6 hb6
    have HB6 : Hid _ := HB.out.trans (hb6.mono HB.out.size)
    clear hb6
    go_wp2
    go_ret
    exact ⟨rfl, HB6.out⟩
set_option maxRecDepth 100000 in
set_option maxHeartbeats 4000000 in
theorem alone_el (p l u x : ByteArray) (nd na nk : Nat) (h : Hdr) (b1 b2 : Bool) (w : World) (H1 : ∀ W, Calls Tryz.prog 74 #[.agg #[.int .i64 1, .string p, .string l, .string u, .slice h.da nd h.dc, .slice h.aa na h.ac, .slice h.ka nk h.kc, .string x], .agg #[.int .i64 1, .string p, .string l, .string u, .slice h.da nd h.dc, .slice h.aa na h.ac, .slice h.ka nk h.kc, .string ⟨#[]⟩]] W fun e w' => e = .returned (.bool b1) ∧ Below W.heap.size W w')
    (H2 : ∀ W, Below w.heap.size w W → Calls Tryz.prog 75 #[.iface 97 (.agg #[.string p, .string l, .string u, .slice h.da nd h.dc, .slice h.aa na h.ac, .slice h.ka nk h.kc])] W fun e w' => e = .returned (.bool b2) ∧ Below W.heap.size W w') :
    Calls Tryz.prog 57 #[.agg #[.int .i64 1, .string p, .string l, .string u, .slice h.da nd h.dc, .slice h.aa na h.ac, .slice h.ka nk h.kc, .string x]] w fun e w' => e = .returned (.bool (b1 && b2)) ∧ Below w.heap.size w w' := by
  have HH1 : Hid (∀ W, _) := H1
  have HH2 : Hid (∀ W, Below w.heap.size w W → _) := H2
  have HSH : Hid (∀ W, _) := shape_el p l u x nd na nk h
  have HND : Hid (∀ W, _) := node_el p l u x nd na nk h
  have hm : ∀ W : World, (method 283 97 (.agg #[.string p, .string l, .string u, .slice h.da nd h.dc, .slice h.aa na h.ac, .slice h.ka nk h.kc]) "loop.example/g00484/impl.node").run Tryz.prog W = .ok (157, .agg #[.string p, .string l, .string u, .slice h.da nd h.dc, .slice h.aa na h.ac, .slice h.ka nk h.kc]) W := fun _ => by kernel_rfl
  clear H1 H2
  go_enter Tryz.func57, Tryz.ntmps57
  go_wp2_with fail
  refine (HSH.out _).mono ?_
  rintro e w1 ⟨rfl, hb1⟩
  have HX : Hid _ := box_kept hb1
  have HB : Hid _ := box_under hb1
  clear hb1
  have HC : Hid (∀ W, Below w1.heap.size w1 W → _) := fun W hW => box8 ((hW.block _ (pairs.lt_heap HX.out)).trans HX.out)
  cases b1
  · go_wp2_with fail
    refine quiets.wp_region_below (by kernel_rfl) (by kernel_rfl) ?_
    repeat (go_big_quiet_step ((first | (intro hq; rfl) | (intro hq; simp [go_sem, HC.out _ hq]; rfl) | (intro hq; exact quiets.below_call (HND.out _) hq) | (intro hq; exact quiets.below_call (HH1.out _) hq))))
    refine wpQuiet_nil ?_
    intro w6 hb6
    have HB6 : Hid _ := HB.out.trans (hb6.mono HB.out.size)
    clear hb6
    go_wp2
    go_ret
    exact ⟨rfl, HB6.out⟩
  · go_wp2_with fail
    refine quiets.wp_region_below (by kernel_rfl) (by kernel_rfl) ?_
    repeat (go_big_quiet_step ((first | (intro hq; rfl) | (intro hq; simp [go_sem, HC.out _ hq]; rfl) | (intro hq; exact quiets.below_call (HND.out _) hq) | (intro hq; exact quiets.below_call (HH1.out _) hq) | (intro hq; exact quiets.below_call (HH2.out _ (HB.out.trans (hq.mono HB.out.size))) hq))))
    refine wpQuiet_nil ?_
    intro w6 hb6
    have HB6 : Hid _ := HB.out.trans (hb6.mono HB.out.size)
    clear hb6
    go_wp2
    go_ret
    exact ⟨rfl, HB6.out⟩
set_option maxRecDepth 100000 in
set_option maxHeartbeats 4000000 in
theorem alone_text (p l u x : ByteArray) (nd na nk : Nat) (h : Hdr) (b1 b2 : Bool) (w : World) (H1 : ∀ W, Calls Tryz.prog 74 #[.agg #[.int .i64 2, .string p, .string l, .string u, .slice h.da nd h.dc, .slice h.aa na h.ac, .slice h.ka nk h.kc, .string x], .agg #[.int .i64 2, .string ⟨#[]⟩, .string ⟨#[]⟩, .string ⟨#[]⟩, .slice none 0 0, .slice none 0 0, .slice none 0 0, .string x]] W fun e w' => e = .returned (.bool b1) ∧ Below W.heap.size W w')
    (H2 : ∀ W, Below w.heap.size w W → Calls Tryz.prog 75 #[.iface 100 (.agg #[.string x])] W fun e w' => e = .returned (.bool b2) ∧ Below W.heap.size W w') :
    Calls Tryz.prog 57 #[.agg #[.int .i64 2, .string p, .string l, .string u, .slice h.da nd h.dc, .slice h.aa na h.ac, .slice h.ka nk h.kc, .string x]] w fun e w' => e = .returned (.bool (b1 && b2)) ∧ Below w.heap.size w w' := by
  have HH1 : Hid (∀ W, _) := H1
  have HH2 : Hid (∀ W, Below w.heap.size w W → _) := H2
  have HSH : Hid (∀ W, _) := shape_text p l u x nd na nk h
  have HND : Hid (∀ W, _) := node_text p l u x nd na nk h
  have hm : ∀ W : World, (method 283 100 (.agg #[.string x]) "loop.example/g00484/impl.node").run Tryz.prog W = .ok (158, .agg #[.string x]) W := fun _ => by kernel_rfl
  clear H1 H2
  go_enter Tryz.func57, Tryz.ntmps57
  go_wp2_with fail
  refine (HSH.out _).mono ?_
  rintro e w1 ⟨rfl, hb1⟩
  have HX : Hid _ := box_kept hb1
  have HB : Hid _ := box_under hb1
  clear hb1
  have HC : Hid (∀ W, Below w1.heap.size w1 W → _) := fun W hW => box8 ((hW.block _ (pairs.lt_heap HX.out)).trans HX.out)
  cases b1
  · go_wp2_with fail
    refine quiets.wp_region_below (by kernel_rfl) (by kernel_rfl) ?_
    repeat (go_big_quiet_step ((first | (intro hq; rfl) | (intro hq; simp [go_sem, HC.out _ hq]; rfl) | (intro hq; exact quiets.below_call (HND.out _) hq) | (intro hq; exact quiets.below_call (HH1.out _) hq))))
    refine wpQuiet_nil ?_
    intro w6 hb6
    have HB6 : Hid _ := HB.out.trans (hb6.mono HB.out.size)
    clear hb6
    go_wp2
    go_ret
    exact ⟨rfl, HB6.out⟩
  · go_wp2_with fail
    refine quiets.wp_region_below (by kernel_rfl) (by kernel_rfl) ?_
    repeat (go_big_quiet_step ((first | (intro hq; rfl) | (intro hq; simp [go_sem, HC.out _ hq]; rfl) | (intro hq; exact quiets.below_call (HND.out _) hq) | (intro hq; exact quiets.below_call (HH1.out _) hq) | (intro hq; exact quiets.below_call (HH2.out _ (HB.out.trans (hq.mono HB.out.size))) hq))))
    refine wpQuiet_nil ?_
    intro w6 hb6
    have HB6 : Hid _ := HB.out.trans (hb6.mono HB.out.size)
    clear hb6
    go_wp2
    go_ret
    exact ⟨rfl, HB6.out⟩
set_option maxRecDepth 100000 in
set_option maxHeartbeats 4000000 in
theorem alone_note (p l u x : ByteArray) (nd na nk : Nat) (h : Hdr) (b1 b2 : Bool) (w : World) (H1 : ∀ W, Calls Tryz.prog 74 #[.agg #[.int .i64 3, .string p, .string l, .string u, .slice h.da nd h.dc, .slice h.aa na h.ac, .slice h.ka nk h.kc, .string x], .agg #[.int .i64 3, .string ⟨#[]⟩, .string ⟨#[]⟩, .string ⟨#[]⟩, .slice none 0 0, .slice none 0 0, .slice none 0 0, .string x]] W fun e w' => e = .returned (.bool b1) ∧ Below W.heap.size W w')
    (H2 : ∀ W, Below w.heap.size w W → Calls Tryz.prog 75 #[.iface 101 (.agg #[.string x])] W fun e w' => e = .returned (.bool b2) ∧ Below W.heap.size W w') :
    Calls Tryz.prog 57 #[.agg #[.int .i64 3, .string p, .string l, .string u, .slice h.da nd h.dc, .slice h.aa na h.ac, .slice h.ka nk h.kc, .string x]] w fun e w' => e = .returned (.bool (b1 && b2)) ∧ Below w.heap.size w w' := by
  have HH1 : Hid (∀ W, _) := H1
  have HH2 : Hid (∀ W, Below w.heap.size w W → _) := H2
  have HSH : Hid (∀ W, _) := shape_note p l u x nd na nk h
  have HND : Hid (∀ W, _) := node_note p l u x nd na nk h
  have hm : ∀ W : World, (method 283 101 (.agg #[.string x]) "loop.example/g00484/impl.node").run Tryz.prog W = .ok (159, .agg #[.string x]) W := fun _ => by kernel_rfl
  clear H1 H2
  go_enter Tryz.func57, Tryz.ntmps57
  go_wp2_with fail
  refine (HSH.out _).mono ?_
  rintro e w1 ⟨rfl, hb1⟩
  have HX : Hid _ := box_kept hb1
  have HB : Hid _ := box_under hb1
  clear hb1
  have HC : Hid (∀ W, Below w1.heap.size w1 W → _) := fun W hW => box8 ((hW.block _ (pairs.lt_heap HX.out)).trans HX.out)
  cases b1
  · go_wp2_with fail
    refine quiets.wp_region_below (by kernel_rfl) (by kernel_rfl) ?_
    repeat (go_big_quiet_step ((first | (intro hq; rfl) | (intro hq; simp [go_sem, HC.out _ hq]; rfl) | (intro hq; exact quiets.below_call (HND.out _) hq) | (intro hq; exact quiets.below_call (HH1.out _) hq))))
    refine wpQuiet_nil ?_
    intro w6 hb6
    have HB6 : Hid _ := HB.out.trans (hb6.mono HB.out.size)
    clear hb6
    go_wp2
    go_ret
    exact ⟨rfl, HB6.out⟩
  · go_wp2_with fail
    refine quiets.wp_region_below (by kernel_rfl) (by kernel_rfl) ?_
    repeat (go_big_quiet_step ((first | (intro hq; rfl) | (intro hq; simp [go_sem, HC.out _ hq]; rfl) | (intro hq; exact quiets.below_call (HND.out _) hq) | (intro hq; exact quiets.below_call (HH1.out _) hq) | (intro hq; exact quiets.below_call (HH2.out _ (HB.out.trans (hq.mono HB.out.size))) hq))))
    refine wpQuiet_nil ?_
    intro w6 hb6
    have HB6 : Hid _ := HB.out.trans (hb6.mono HB.out.size)
    clear hb6
    go_wp2
    go_ret
    exact ⟨rfl, HB6.out⟩
set_option maxRecDepth 100000 in
set_option maxHeartbeats 4000000 in
theorem alone_told (p l u x : ByteArray) (nd na nk : Nat) (h : Hdr) (b1 b2 : Bool) (w : World) (H1 : ∀ W, Calls Tryz.prog 74 #[.agg #[.int .i64 4, .string p, .string l, .string u, .slice h.da nd h.dc, .slice h.aa na h.ac, .slice h.ka nk h.kc, .string x], .agg #[.int .i64 4, .string ⟨#[]⟩, .string l, .string ⟨#[]⟩, .slice none 0 0, .slice none 0 0, .slice none 0 0, .string x]] W fun e w' => e = .returned (.bool b1) ∧ Below W.heap.size W w')
    (H2 : ∀ W, Below w.heap.size w W → Calls Tryz.prog 75 #[.iface 103 (.agg #[.string l, .string x])] W fun e w' => e = .returned (.bool b2) ∧ Below W.heap.size W w') :
    Calls Tryz.prog 57 #[.agg #[.int .i64 4, .string p, .string l, .string u, .slice h.da nd h.dc, .slice h.aa na h.ac, .slice h.ka nk h.kc, .string x]] w fun e w' => e = .returned (.bool (b1 && b2)) ∧ Below w.heap.size w w' := by
  have HH1 : Hid (∀ W, _) := H1
  have HH2 : Hid (∀ W, Below w.heap.size w W → _) := H2
  have HSH : Hid (∀ W, _) := shape_told p l u x nd na nk h
  have HND : Hid (∀ W, _) := node_told p l u x nd na nk h
  have hm : ∀ W : World, (method 283 103 (.agg #[.string l, .string x]) "loop.example/g00484/impl.node").run Tryz.prog W = .ok (160, .agg #[.string l, .string x]) W := fun _ => by kernel_rfl
  clear H1 H2
  go_enter Tryz.func57, Tryz.ntmps57
  go_wp2_with fail
  refine (HSH.out _).mono ?_
  rintro e w1 ⟨rfl, hb1⟩
  have HX : Hid _ := box_kept hb1
  have HB : Hid _ := box_under hb1
  clear hb1
  have HC : Hid (∀ W, Below w1.heap.size w1 W → _) := fun W hW => box8 ((hW.block _ (pairs.lt_heap HX.out)).trans HX.out)
  cases b1
  · go_wp2_with fail
    refine quiets.wp_region_below (by kernel_rfl) (by kernel_rfl) ?_
    repeat (go_big_quiet_step ((first | (intro hq; rfl) | (intro hq; simp [go_sem, HC.out _ hq]; rfl) | (intro hq; exact quiets.below_call (HND.out _) hq) | (intro hq; exact quiets.below_call (HH1.out _) hq))))
    refine wpQuiet_nil ?_
    intro w6 hb6
    have HB6 : Hid _ := HB.out.trans (hb6.mono HB.out.size)
    clear hb6
    go_wp2
    go_ret
    exact ⟨rfl, HB6.out⟩
  · go_wp2_with fail
    refine quiets.wp_region_below (by kernel_rfl) (by kernel_rfl) ?_
    repeat (go_big_quiet_step ((first | (intro hq; rfl) | (intro hq; simp [go_sem, HC.out _ hq]; rfl) | (intro hq; exact quiets.below_call (HND.out _) hq) | (intro hq; exact quiets.below_call (HH1.out _) hq) | (intro hq; exact quiets.below_call (HH2.out _ (HB.out.trans (hq.mono HB.out.size))) hq))))
    refine wpQuiet_nil ?_
    intro w6 hb6
    have HB6 : Hid _ := HB.out.trans (hb6.mono HB.out.size)
    clear hb6
    go_wp2
    go_ret
    exact ⟨rfl, HB6.out⟩
end Go.Proofs.YtmiiilamjbhheaaGreatDoor.trees
