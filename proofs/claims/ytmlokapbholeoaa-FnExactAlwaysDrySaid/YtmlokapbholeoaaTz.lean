/- The hours at which a place is dry, and the places by how many: spec.tdHours, spec.tdBy; impl's coast.dryHours, coast.stonesDryFor; DryHours, AlwaysDry, NeverDry. -/
import Derived.Test.YtmlokapbholeoaaTy
import Derived.Test.YtmlokapbholeoaaSl
namespace Go.Proofs.Ytmlokapbholeoaa
set_option linter.unusedVariables false
open Go.RowKit

theorem Ints.iterT {w : World} {B K : Nat} {v : Value} {zs : List Int} (h : Ints w B v zs) (hk : K < B) (s : ByteArray) (p : Nat) : Ints (w.iterAt K s p) B v zs := by
  refine ⟨h.1, ?_⟩
  rcases h.2 with h2 | ⟨g, cap, cur, e, h1, hg, h3, h4, h5, h6⟩
  · exact .inl h2
  · exact .inr ⟨g, cap, cur, e, h1, (Lib.iterAt_other w K g s p (by omega)).trans hg, h3, h4, h5, h6⟩
theorem ints_sl {w : World} {B : Nat} {v : Value} {zs : List Int} (h : Ints w B v zs) : ∃ a c, v = .slice a zs.length c := by
  rcases h.2 with ⟨rfl, h0⟩ | ⟨g, cap, cur, rfl, hb, hg, hnc, hcm, hcs, ht⟩
  · rw [h0]; exact ⟨_, _, rfl⟩
  · exact ⟨_, _, rfl⟩
theorem asc {s : ByteArray} (hd : AllT s) {k : Nat} (hk : k < s.size) : (s[k]'hk).toNat < 128 := by have := hd k hk; omega
theorem Blk.iterT {w : World} {g K : Nat} {cs : Array Value} (h : Blk w g cs) (hk : g ≠ K) (s : ByteArray) (p : Nat) : Blk (w.iterAt K s p) g cs := by
  obtain ⟨T, h⟩ := h; exact ⟨T, (Lib.iterAt_other w K g s p hk).trans h⟩

set_option maxHeartbeats 2000000 in
theorem tdHours (h t : ByteArray) (p : Nat) (P : Int) (w : World) (hP : P = p) (hg : good h t = true) (hp : p ≤ h.size + 1) :
    Calls Try.prog 36 #[.string h, .string t, .int .i64 P] w fun e w' => ∃ v, e = .returned v ∧ Ints w' w.heap.size v (hrs h t p t.size) ∧ Below w.heap.size w w' := by
  obtain ⟨z1, z2, _⟩ := (good_in hg).2
  have HG := Lib.hid hg
  have HP := Lib.hid hP
  clear hg hP
  go_enter Try.func36, Try.ntmps36
  go_wp2
  go_loopw [7, 8] (fun v i wr => ∃ k : Nat, k ≤ t.size ∧ i = .int .i64 k ∧ Ints wr w.heap.size v (hrs h t p k) ∧ Below w.heap.size w wr) (fun _ i _ => t.size - (intOf i).toNat)
  case atStart => exact ⟨0, Nat.zero_le _, rfl, World.ownsRow_nil _ _ _ _, Below.refl _ _⟩
  case round =>
    obtain ⟨k, hk, rfl, hI, hbw⟩ := hrel
    have hsz := hbw.size
    by_cases hlt : k < t.size
    · have hlt' : (k : Int) < t.size := by omega
      have hl := hrs_len h t p k
      have D := Lib.hid (fun wx => tdDry h t p k P k wx HP.out rfl HG.out hp (by omega))
      have HI := Lib.hid hI
      have HB := Lib.hid hbw
      clear hI hbw
      cases hd : dry h t p k
      · have R := Lib.hid (hrs_no hd)
        rw [hd] at D
        go_wp2_with (go_at_call 31; refine (D.out _).mono ?_; rintro e w2 ⟨rfl, n, rfl⟩)
        go_roundw
        case rel => exact ⟨k + 1, by omega, by go_num, by rw [R.out]; exact HI.out.below (below_drewN (Below.refl _ _) _), below_drewN HB.out _⟩
        case measure => simp [intOf]; omega
      · have R := Lib.hid (hrs_yes hd)
        rw [hd] at D
        go_wp2_with (first
          | (go_at_call 31; refine (D.out _).mono ?_; rintro e w2 ⟨rfl, n, hw⟩; have HB2 := Lib.hid (by rw [hw]; exact below_drewN (Below.refl _ _) _ : Below wr.heap.size wr w2); have HI2 := Lib.hid (HI.out.below HB2.out); have hle := HB2.out.size; clear hw)
          | (at_builtin; refine wpList_app w2 rfl _ _ rfl w.heap.size _ (hrs h t p k) rfl HI2.out (k : Int) rfl (by omega) (by omega) rfl ?_; intro v' w3 hI3 hb3 hg3))
        go_roundw
        case rel => exact ⟨k + 1, by omega, by go_num, by rw [R.out]; exact hI3, (HB.out.trans (HB2.out.mono hsz)).trans hb3⟩
        case measure => simp [intOf]; omega
    · obtain rfl : k = t.size := by omega
      go_wp2
      go_ret
      exact ⟨_, rfl, hI, hbw⟩
set_option maxHeartbeats 2000000 in
theorem dryHours (h t : ByteArray) (p : Nat) (P : Int) (w : World) (hP : P = p) (hg : good h t = true) (hp : p ≤ h.size + 1) :
    Calls Try.prog 38 #[cst h t, .int .i64 P] w fun e w' => ∃ v, e = .returned v ∧ Ints w' w.heap.size v (hrs h t p t.size) ∧ Below w.heap.size w w' := by
  obtain ⟨z1, z2, hal⟩ := (good_in hg).2
  have HG := Lib.hid hg
  have HP := Lib.hid hP
  have HAL := Lib.hid hal
  obtain ⟨c0, c1, cl⟩ := (Blk.new w #[.string h, .string t] 40).two
  have X := Lib.hid (Blk.new w #[.string h, .string t] 40)
  clear hg hP hal
  unfold cst
  go_enter Try.func38, Try.ntmps38
  go_wp2
  go_loopw [5] (fun v wr => ∃ k : Nat, k ≤ t.size ∧ Ints wr (w.heap.size + 2) v (hrs h t p k) ∧ wr.heap[w.heap.size + 1]? = some (.stringIter t k) ∧ Hid (Blk wr w.heap.size #[.string h, .string t]) ∧ Below w.heap.size w wr) (fun _ wr => t.size - wr.iterPos (w.heap.size + 1))
  case atStart =>
    refine ⟨0, Nat.zero_le _, World.ownsRow_nil _ _ _ _, ?_, Lib.hid (X.out.alloc _), ((Below.refl _ w).alloc (Nat.le_refl _) _).alloc (by simp) _⟩
    have := World.iter_heap (w.alloc (.cells #[.string h, .string t] 40)) t 0
    simpa using this
  case round =>
    obtain ⟨k, hk, hI, hit, HX, hbw⟩ := hrel
    have HOLD := Lib.hid hit
    have hsz : w.heap.size + 1 < wr.heap.size := (Array.getElem?_eq_some_iff.1 hit).1
    by_cases hlt : k < t.size
    · have hnx : ∀ ty, (Instr.next (.pointer (some ⟨w.heap.size + 1, 0, none⟩)) true ty).run Try.prog wr = _ := fun ty => Lib.run_next_ascii_at wr (w.heap.size + 1) t k ty hit hlt (asc HAL.out hlt)
      have HIT := Lib.hid (Lib.iterAt_heap wr (w.heap.size + 1) t k (k + 1) hit)
      have HB := Lib.hid (Lib.below_iterAt hbw (k := w.heap.size + 1) (Nat.le_succ _) t (k + 1))
      have HI := Lib.hid (hI.iterT (Nat.lt_succ_self _) t (k + 1))
      have HX2 := Lib.hid (HX.out.iterT (by omega) t (k + 1) : Blk (wr.iterAt (w.heap.size + 1) t (k + 1)) w.heap.size _)
      obtain ⟨d0, d1, dl⟩ := HX2.out.two
      have hl := hrs_len h t p k
      have hsz2 : w.heap.size + 1 < (wr.iterAt (w.heap.size + 1) t (k + 1)).heap.size := by rw [Lib.iterAt_size]; exact hsz
      have D := Lib.hid (fun wx => isDry h t p k P k wx HP.out rfl HG.out hp (by omega))
      unfold cst at D
      clear hit hI hbw HX
      cases hd : dry h t p k
      · have R := Lib.hid (hrs_no hd)
        rw [hd] at D
        go_wp2_with (go_at_call 34; refine (D.out _).mono ?_; rintro e w2 ⟨rfl, hb2⟩; have HI2 := Lib.hid (HI.out.below hb2); have HIT2 := Lib.hid ((hb2.block _ hsz2).trans HIT.out); have HX3 := HX2.out.below hb2 (by omega); have HB2 := Lib.hid (HB.out.trans (hb2.mono (by omega))); clear hb2)
        go_roundw
        case rel => exact ⟨k + 1, by omega, by rw [R.out]; exact HI2.out, HIT2.out, Lib.hid HX3, HB2.out⟩
        case measure => (simp only [World.iterPos, HIT2.out, HOLD.out]; omega)
      · have R := Lib.hid (hrs_yes hd)
        rw [hd] at D
        go_wp2_with (first
          | (go_at_call 34; refine (D.out _).mono ?_; rintro e w2 ⟨rfl, hb2⟩; have hle := hb2.size; have HI2 := Lib.hid (HI.out.below hb2); have HIT2 := Lib.hid ((hb2.block _ hsz2).trans HIT.out); have HX3 := Lib.hid (HX2.out.below hb2 (by omega)); have HB2 := Lib.hid (HB.out.trans (hb2.mono (by omega))); clear hb2)
          | (at_builtin; refine wpList_app w2 rfl _ _ rfl (w.heap.size + 2) _ (hrs h t p k) rfl HI2.out (k : Int) rfl (by omega) (by omega) rfl ?_; intro v' w3 hI3 hb3 hg3))
        go_roundw
        case rel => exact ⟨k + 1, by omega, by rw [R.out]; exact hI3, (hb3.block _ (by omega)).trans HIT2.out, Lib.hid (HX3.out.below hb3 (by omega)), HB2.out.trans (hb3.mono (by omega))⟩
        case measure => (simp only [World.iterPos, (hb3.block _ (Nat.lt_succ_self _)).trans HIT2.out, HOLD.out]; omega)
    · have hnx : ∀ ty, (Instr.next (.pointer (some ⟨w.heap.size + 1, 0, none⟩)) true ty).run Try.prog wr = _ := fun ty => Lib.run_next_end_at wr (w.heap.size + 1) t k ty hit hlt
      obtain rfl : k = t.size := by omega
      go_wp2
      go_ret
      exact ⟨_, rfl, ints_mono' hI (by omega), hbw⟩
end Go.Proofs.Ytmlokapbholeoaa
