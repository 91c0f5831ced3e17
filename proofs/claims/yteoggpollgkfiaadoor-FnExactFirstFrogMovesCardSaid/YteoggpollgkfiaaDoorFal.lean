/- impl.firstAlong: the first list of moves along a map of what is left. -/
import Derived.Test.YteoggpollgkfiaaDoorWm
import Derived.Test.YteoggpollgkfiaaDoorPot
import Derived.Test.YteoggpollgkfiaaDoorMo
import Derived.Test.YteoggpollgkfiaaDoorFrom
import Derived.RegionTactic
import Derived.ChangeAlike
import Derived.BigRegion
namespace Go.Proofs.YteoggpollgkfiaaDoor
set_option linter.unusedVariables false
open Go.RowKit Go.Maps

/-- behind the move m moves are left -/
def alongP (f : ByteArray → Int) (g : ByteArray → Bool) (q : ByteArray) (m : Nat) (i : Nat) : Bool := g (goes q i) && decide (f (goes q i) = (m : Int))
def alongF (f : ByteArray → Int) (g : ByteArray → Bool) : Nat → ByteArray → List Nat
  | 0, _ => []
  | m + 1, q => match (moves q).find? (alongP f g q m) with
    | some i => i :: alongF f g m (goes q i)
    | none => alongF f g m q
theorem alongF_len (f : ByteArray → Int) (g : ByteArray → Bool) : ∀ (m : Nat) (q : ByteArray), (alongF f g m q).length ≤ m
  | 0, _ => by simp [alongF]
  | m + 1, q => by
    unfold alongF
    split
    · rename_i i _
      have := alongF_len f g m (goes q i)
      simp; omega
    · have := alongF_len f g m q
      omega
theorem find_hit {p : Nat → Bool} : ∀ {l : List Nat} {k : Nat}, k < l.length → (∀ j, j < k → p (l.getD j 0) = false) → p (l.getD k 0) = true → l.find? p = some (l.getD k 0)
  | [], k, hk, _, _ => by simp at hk
  | a :: l, 0, _, _, h2 => by
    have : p a = true := h2
    rw [List.find?_cons, this]; rfl
  | a :: l, k + 1, hk, h, h2 => by
    have h0 : p a = false := h 0 (by omega)
    rw [List.find?_cons, h0]
    exact find_hit (l := l) (k := k) (by simpa using hk) (fun j hj => h (j + 1) (by omega)) h2
theorem find_miss {p : Nat → Bool} : ∀ {l : List Nat}, (∀ j, j < l.length → p (l.getD j 0) = false) → l.find? p = none
  | [], _ => rfl
  | a :: l, h => by
    have h0 : p a = false := h 0 (by simp)
    rw [List.find?_cons, h0]
    exact find_miss (l := l) fun j hj => h (j + 1) (by simpa using hj)
theorem along_hit {f : ByteArray → Int} {g : ByteArray → Bool} {q : ByteArray} {m k : Nat} (hk : k < (moves q).length) (h : ∀ j, j < k → alongP f g q m ((moves q).getD j 0) = false) (h2 : alongP f g q m ((moves q).getD k 0) = true) :
    alongF f g (m + 1) q = (moves q).getD k 0 :: alongF f g m (goes q ((moves q).getD k 0)) := by
  conv => lhs; unfold alongF
  rw [find_hit hk h h2]
theorem along_miss {f : ByteArray → Int} {g : ByteArray → Bool} {q : ByteArray} {m : Nat} (h : ∀ j, j < (moves q).length → alongP f g q m ((moves q).getD j 0) = false) :
    alongF f g (m + 1) q = alongF f g m q := by
  conv => lhs; unfold alongF
  rw [find_miss h]
theorem untilS {l : List Nat} {p : Nat → Bool} {k : Nat} (h : ∀ j, j < k → p (l.getD j 0) = false) (h2 : p (l.getD k 0) = false) : ∀ j, j < k + 1 → p (l.getD j 0) = false := by
  intro j hj
  by_cases e : j = k
  · subst e; exact h2
  · exact h j (by omega)

set_option maxHeartbeats 4000000 in
set_option maxRecDepth 100000 in
theorem firstAlong (s : ByteArray) (b N : Nat) (f : ByteArray → Int) (g : ByteArray → Bool) (m0 : Nat) (p : Addr) (w : World) (hp : isPd s = true) (hL : Laid w p) (hM : IMap w b N f g) (hm0 : f s = (m0 : Int)) (hm1 : m0 ≤ 200) :
    Calls Tryd.prog 30 #[.string s, .map (some b)] w fun e w' => ∃ v, e = .returned v ∧ Ints w' w.heap.size v (asI (alongF f g m0 s)) ∧ Below w.heap.size w w' := by
  have hsz := (isPd_in hp).2.1
  have hsm : s.size ≤ maxLen := by unfold maxLen; omega
  have hlk := hM.get (c := s) hsm
  rw [hm0] at hlk
  have HL := Lib.hid hL
  have HM := Lib.hid hM
  have HP := Lib.hid hp
  clear hp hL hM hm0 hsm
  go_enter Tryd.func30, Tryd.ntmps30
  go_wp2
  go_step3
  go_wp2
  go_step3
  go_wp2
  go_loopg [0, 5, 6] m0 (fun k pd v rs wr => ∃ (q : ByteArray) (acc : List Nat), pd = .string q ∧ k ≤ m0 ∧ Hid (isPd q = true) ∧ rs = .int .i64 ((k : Int) - 1) ∧ Hid (acc ++ alongF f g k q = alongF f g m0 s) ∧ Hid (Ints wr w.heap.size v (asI acc)) ∧ Hid (Below w.heap.size w wr))
  case atStart => exact ⟨s, [], rfl, Nat.le_refl _, HP, rfl, Lib.hid rfl, Lib.hid (World.ownsRow_nil _ _ _ _), Lib.hid (Below.refl _ _)⟩
  case round =>
    obtain ⟨q, acc, rfl, hk0, HQ, rfl, HACC, hI, hB⟩ := hrel
    have hal : acc.length ≤ 200 := by
      have := congrArg List.length HACC.out
      have h2 := alongF_len f g m0 s
      rw [List.length_append] at this; omega
    rcases gk with _ | m
    · have A := Lib.hid (show acc = alongF f g m0 s from (List.append_nil acc).symm.trans HACC.out)
      go_wp2
      rw [Exit.noGoto_ret]
      go_ret
      exact ⟨_, rfl, by rw [← A.out]; exact hI.out, hB.out⟩
    · have hr : ((m + 1 : Nat) : Int) - 1 = (m : Int) := by omega
      simp only [hr]
      clear hr
      have hq9 := (isPd_in HQ.out).2.1
      have LR := Lib.hid (HL.out.below hB.out)
      have hleB := hB.out.size
      go_wp2_with (go_at_call 45; refine (movesOf q p _ HQ.out LR.out).mono ?_; rintro e w4 ⟨vm, rfl, hMv, hb3⟩; obtain ⟨a', n', cap', rfl, hn', _⟩ := hMv.form; have HMv := Lib.hid hMv; have HN' := Lib.hid hn'; have I3 := Lib.hid (hI.out.below hb3); have B3 := Lib.hid (hB.out.trans (hb3.mono hleB)); clear hMv hb3 hn')
      have hn9 : n' ≤ 9 := by
        have h1 : n' = (moves q).length := HN'.out
        have h2 : (moves q).length ≤ q.size := mvTo_len q q.size
        omega
      clear hI hB LR
      obtain ⟨wo, rfl⟩ : ∃ wo : World, wo = wr := ⟨_, rfl⟩
      go_loopg [0, 5, 22] n' (fun k pd v i wr => ∃ j : Nat, k = n' - j ∧ j ≤ n' ∧ i = .int .i64 j ∧ pd = .string q ∧ Hid (∀ t, t < j → alongP f g q m ((moves q).getD t 0) = false) ∧ Hid (Ints wr w.heap.size v (asI acc)) ∧ Hid (Moves wr 0 (.slice a' n' cap') q (moves q)) ∧ Hid (Below w.heap.size w wr))
      case atStart => exact ⟨0, rfl, Nat.zero_le _, rfl, rfl, Lib.hid (fun t ht => absurd ht (Nat.not_lt_zero _)), I3, Lib.hid (moves_mono HMv.out (Nat.zero_le _)), B3⟩
      case round =>
        clear I3 B3 HMv
        obtain ⟨j, rfl, hj, rfl, rfl, hun, hI, hMv, hB⟩ := hrel
        have hleB := hB.out.size
        by_cases hlt : j < n'
        · have hkm : j < (moves q).length := by rw [← HN'.out]; exact hlt
          obtain ⟨g', rfl, hg', hc0, hc1⟩ := hMv.out.cells (j := j) hkm
          have hxm : (moves q).getD j 0 ∈ moves q := by
            rw [List.getD_eq_getElem?_getD, List.getElem?_eq_getElem hkm]; exact List.getElem_mem _
          have HGP := Lib.hid (isPd_goes HQ.out hxm)
          have hys : (goes q ((moves q).getD j 0)).size ≤ maxLen := by have := HGP.out.2; unfold maxLen; omega
          have HHIT := Lib.hid (fun h => along_hit (f := f) (g := g) (q := q) (m := m) hkm hun.out h)
          have HUN := Lib.hid (fun h => untilS (p := alongP f g q m) (k := j) hun.out h)
          have HPP := Lib.hid (show alongP f g q m ((moves q).getD j 0) = (g (goes q ((moves q).getD j 0)) && decide (f (goes q ((moves q).getD j 0)) = (m : Int))) from rfl)
          clear hxm
          have hji : (j : Int) < n' := by omega
          generalize (moves q).getD j 0 = x at *
          generalize goes q x = y at *
          have hbA : Below wr.heap.size wr (wr.alloc (.cells #[.int .i64 (x : Int), .string y] 54)) := (Below.refl wr.heap.size wr).alloc (Nat.le_refl _) _
          have IA := Lib.hid (hI.out.below hbA)
          have VA := Lib.hid (hMv.out.below hbA)
          have BA := Lib.hid (hB.out.trans (hbA.mono hleB))
          have hlk := (HM.out.below BA.out).getok (c := y) hys
          have HLT := Lib.hid (fun x hx => (World.ownsRow.lt hI.out x hx).2)
          have D0 := Lib.hid (show (wr.alloc (.cells #[.int .i64 (x : Int), .string y] 54)).cell? ⟨wr.heap.size, 1, none⟩ = some (.string y) by simp)
          clear hbA hI hMv hB hys
          generalize hg : g y = gy at *
          generalize hf : f y = fy at *
          clear hg hf
          cases gy
          · have R := Lib.hid (HUN.out (by rw [HPP.out]; rfl))
            go_wp2
            go_roundg (n' - (j + 1))
            case measure => omega
            case rel => exact ⟨j + 1, rfl, by omega, by go_num, rfl, R, IA, VA, BA⟩
          · by_cases he : fy = (m : Int)
            · have R := Lib.hid (HHIT.out (by rw [HPP.out, he]; simp))
              subst he
              go_wp2_with (at_builtin; refine wpList_app' (wr.alloc (.cells #[.int .i64 (x : Int), .string y] 54)) rfl _ _ rfl w.heap.size _ (asI acc) rfl IA.out (x : Int) (wr.heap.size + 1) rfl (by simp) (by rw [asI_len]; omega) (by simp; omega) rfl ?_; intro v' w5 hI5 hb5 hg5; have d1 := hg5.cell D0.out (by show some wr.heap.size ≠ _; intro e; exact absurd (HLT.out _ e.symm) (by omega)); have I5 := Lib.hid hI5; have B5 := Lib.hid (BA.out.trans hb5); clear hI5 hb5 hg5)
              go_roundg m
              case measure => omega
              case rel => exact ⟨y, acc ++ [x], rfl, by omega, Lib.hid HGP.out.1, rfl, Lib.hid (by have h := HACC.out; rw [R.out] at h; rw [← h]; simp), Lib.hid (by rw [asI_snoc]; exact I5.out), B5⟩
            · have R := Lib.hid (HUN.out (by rw [HPP.out, decide_eq_false he]; rfl))
              have he2 : (fy == (m : Int)) = false := by simpa using he
              clear he
              go_wp2
              go_roundg (n' - (j + 1))
              case measure => omega
              case rel => exact ⟨j + 1, rfl, by omega, by go_num, rfl, R, IA, VA, BA⟩
        · obtain rfl : j = n' := by omega
          have R := Lib.hid (along_miss (f := f) (g := g) (q := q) (m := m) (fun t ht => hun.out t (by rw [HN'.out]; exact ht)))
          have A := Lib.hid (show acc ++ alongF f g m q = alongF f g m0 s by rw [← R.out]; exact HACC.out)
          go_wp2
          go_roundg m
          case measure => omega
          case rel => exact ⟨q, acc, rfl, by omega, HQ, by go_num, A, hI, hB⟩
end Go.Proofs.YteoggpollgkfiaaDoor
