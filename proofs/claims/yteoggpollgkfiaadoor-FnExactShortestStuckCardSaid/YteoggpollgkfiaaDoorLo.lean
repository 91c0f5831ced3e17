/- LongestFrogPlay, ShortestStuck, made by gen_lo.py. -/
import Derived.Test.YteoggpollgkfiaaDoorBs
import Derived.Test.YteoggpollgkfiaaDoorMs
import Derived.Test.YteoggpollgkfiaaDoorMm
import Derived.Test.YteoggpollgkfiaaDoorFal
namespace Go.Proofs.YteoggpollgkfiaaDoor
set_option linter.unusedVariables false
open Go.RowKit

theorem lng_along {s : ByteArray} {R : List ByteArray} (hps : isPd s = true) (hR : reach s = R) : (lAll stk moreI R).1 s = ((bL moreI s).length : Int) ∧ alongF (lAll stk moreI R).1 (lAll stk moreI R).2 (bL moreI s).length s = bL moreI s := by
  have hri : ∀ q, q ∈ R ↔ ∃ l, runM s l = some q := fun q => by rw [← hR]; exact reach_iff hps
  have hC := chain_of hps hR
  exact ⟨(lAll_best hC s ((hri s).2 ⟨[], rfl⟩)).2, along_best moreI_strict _ s hps rfl fun l p hl => lAll_best hC p ((hri p).2 ⟨l, hl⟩)⟩
def lngL (s : ByteArray) : List Int := if isPd s = true then asI (bL moreI s) else []
theorem lng_no {s : ByteArray} (h : isPd s = false) : lngL s = [] := by unfold lngL; rw [h]; rfl
theorem lng_yes {s : ByteArray} (h : isPd s = true) : lngL s = asI (bL moreI s) := by unfold lngL; rw [if_pos h]
theorem lngL_len (s : ByteArray) : (lngL s).length ≤ 200 := by
  unfold lngL
  split
  · rename_i h
    rw [asI_len]
    exact Nat.le_trans (bL_len _ h) (by decide)
  · simp
set_option maxHeartbeats 1000000 in
theorem specPlaysF (s : ByteArray) (w : World) (hs : s.size ≤ 1048576) :
    Calls Tryd.prog 15 #[.string s] w fun e w' => ∃ v, e = .returned (.tuple #[v, .bool (isPd s)]) ∧ Ints w' w.heap.size v (lngL s) ∧ Below w.heap.size w w' := by
  have hm : s.size ≤ maxLen := by unfold maxLen; omega
  cases h1 : isPd s
  · have J := Lib.hid (lng_no h1)
    have G := Lib.hid h1
    clear h1
    go_enter Tryd.func15, Tryd.ntmps15
    go_wp2_with (go_at_call 31; refine (specFgGood _ _ hm).mono ?_; rintro e w' ⟨rfl, rfl⟩; rw [G.out])
    go_ret2
    exact ⟨_, rfl, by rw [J.out]; exact World.ownsRow_nil _ _ _ _, Below.refl _ _⟩
  · have J := Lib.hid (lng_yes h1)
    have G := Lib.hid h1
    have HC := Lib.hid (specPlays (room s) s w h1 (Nat.le_refl _))
    clear h1
    go_enter Tryd.func15, Tryd.ntmps15
    go_wp2_with (first
      | (go_at_call 31; refine (specFgGood _ _ hm).mono ?_; rintro e w' ⟨rfl, rfl⟩; rw [G.out])
      | (go_at_call 32; refine HC.out.mono ?_; rintro e w1 ⟨v, rfl, hI, hb⟩; have HI := Lib.hid hI; have HB := Lib.hid hb; clear hI hb))
    go_ret2
    exact ⟨_, rfl, by rw [J.out]; exact HI.out, HB.out⟩
set_option maxHeartbeats 1000000 in
theorem implPlaysF (s : ByteArray) (p : Addr) (w : World) (hs : s.size ≤ 1048576) (hL : Laid w p) :
    Calls Tryd.prog 16 #[.string s] w fun e w' => ∃ v, e = .returned (.tuple #[v, .bool (isPd s)]) ∧ Ints w' w.heap.size v (lngL s) ∧ Below w.heap.size w w' := by
  have hm : s.size ≤ maxLen := by unfold maxLen; omega
  cases h1 : isPd s
  · have J := Lib.hid (lng_no h1)
    have G := Lib.hid h1
    clear h1
    go_enter Tryd.func16, Tryd.ntmps16
    go_wp2_with (go_at_call 33; refine (implIsPond _ _ hm).mono ?_; rintro e w' ⟨rfl, rfl⟩; rw [G.out])
    go_ret2
    exact ⟨_, rfl, by rw [J.out]; exact World.ownsRow_nil _ _ _ _, Below.refl _ _⟩
  · have J := Lib.hid (lng_yes h1)
    have G := Lib.hid h1
    have HT := Lib.hid (fun (R : List ByteArray) (hR : reach s = R) => lng_along h1 hR)
    have hbl := bL_len moreI h1
    obtain ⟨R, hR⟩ : ∃ R, reach s = R := ⟨_, rfl⟩
    have hT := HT.out R hR
    have HC := Lib.hid (movesLeftMore s p w h1 R hR hL)
    have HL := Lib.hid hL
    have HFA := Lib.hid (fun b N w1 (hl : Laid w1 p) (h2 : IMap w1 b N (lAll stk moreI R).1 (lAll stk moreI R).2) => firstAlong s b N _ _ (bL moreI s).length p w1 h1 hl h2 hT.1 (by omega))
    have HE := Lib.hid hT.2
    generalize lAll stk moreI R = st at *
    clear h1 hR hL hT HT
    go_enter Tryd.func16, Tryd.ntmps16
    go_wp2_with (first
      | (go_at_call 33; refine (implIsPond _ _ hm).mono ?_; rintro e w' ⟨rfl, rfl⟩; rw [G.out])
      | (go_at_call 34; refine HC.out.mono ?_; rintro e w1 ⟨b, rfl, hbl2, ⟨N, hM⟩, hb1⟩; have HM := Lib.hid hM; have HB := Lib.hid hb1; clear hM hb1)
      | (go_at_call 30; refine (HFA.out _ N _ (HL.out.below HB.out) HM.out).mono ?_; rintro e w2 ⟨v, rfl, hI, hb2⟩; have HI2 := Lib.hid hI; have HB2 := Lib.hid hb2; clear hI hb2))
    go_ret2
    exact ⟨_, rfl, by rw [J.out, ← HE.out]; exact ints_mono' HI2.out HB.out.size, HB.out.trans (HB2.out.mono HB.out.size)⟩

theorem sht_along {s : ByteArray} {R : List ByteArray} (hps : isPd s = true) (hR : reach s = R) : (lAll stk lessI R).1 s = ((bL lessI s).length : Int) ∧ alongF (lAll stk lessI R).1 (lAll stk lessI R).2 (bL lessI s).length s = bL lessI s := by
  have hri : ∀ q, q ∈ R ↔ ∃ l, runM s l = some q := fun q => by rw [← hR]; exact reach_iff hps
  have hC := chain_of hps hR
  exact ⟨(lAll_best hC s ((hri s).2 ⟨[], rfl⟩)).2, along_best lessI_strict _ s hps rfl fun l p hl => lAll_best hC p ((hri p).2 ⟨l, hl⟩)⟩
def shtL (s : ByteArray) : List Int := if isPd s = true then asI (bL lessI s) else []
theorem sht_no {s : ByteArray} (h : isPd s = false) : shtL s = [] := by unfold shtL; rw [h]; rfl
theorem sht_yes {s : ByteArray} (h : isPd s = true) : shtL s = asI (bL lessI s) := by unfold shtL; rw [if_pos h]
theorem shtL_len (s : ByteArray) : (shtL s).length ≤ 200 := by
  unfold shtL
  split
  · rename_i h
    rw [asI_len]
    exact Nat.le_trans (bL_len _ h) (by decide)
  · simp
set_option maxHeartbeats 1000000 in
theorem specStuckF (s : ByteArray) (w : World) (hs : s.size ≤ 1048576) :
    Calls Tryd.prog 17 #[.string s] w fun e w' => ∃ v, e = .returned (.tuple #[v, .bool (isPd s)]) ∧ Ints w' w.heap.size v (shtL s) ∧ Below w.heap.size w w' := by
  have hm : s.size ≤ maxLen := by unfold maxLen; omega
  cases h1 : isPd s
  · have J := Lib.hid (sht_no h1)
    have G := Lib.hid h1
    clear h1
    go_enter Tryd.func17, Tryd.ntmps17
    go_wp2_with (go_at_call 31; refine (specFgGood _ _ hm).mono ?_; rintro e w' ⟨rfl, rfl⟩; rw [G.out])
    go_ret2
    exact ⟨_, rfl, by rw [J.out]; exact World.ownsRow_nil _ _ _ _, Below.refl _ _⟩
  · have J := Lib.hid (sht_yes h1)
    have G := Lib.hid h1
    have HC := Lib.hid (specStuck (room s) s w h1 (Nat.le_refl _))
    clear h1
    go_enter Tryd.func17, Tryd.ntmps17
    go_wp2_with (first
      | (go_at_call 31; refine (specFgGood _ _ hm).mono ?_; rintro e w' ⟨rfl, rfl⟩; rw [G.out])
      | (go_at_call 37; refine HC.out.mono ?_; rintro e w1 ⟨v, rfl, hI, hb⟩; have HI := Lib.hid hI; have HB := Lib.hid hb; clear hI hb))
    go_ret2
    exact ⟨_, rfl, by rw [J.out]; exact HI.out, HB.out⟩
set_option maxHeartbeats 1000000 in
theorem implStuckF (s : ByteArray) (p : Addr) (w : World) (hs : s.size ≤ 1048576) (hL : Laid w p) :
    Calls Tryd.prog 18 #[.string s] w fun e w' => ∃ v, e = .returned (.tuple #[v, .bool (isPd s)]) ∧ Ints w' w.heap.size v (shtL s) ∧ Below w.heap.size w w' := by
  have hm : s.size ≤ maxLen := by unfold maxLen; omega
  cases h1 : isPd s
  · have J := Lib.hid (sht_no h1)
    have G := Lib.hid h1
    clear h1
    go_enter Tryd.func18, Tryd.ntmps18
    go_wp2_with (go_at_call 33; refine (implIsPond _ _ hm).mono ?_; rintro e w' ⟨rfl, rfl⟩; rw [G.out])
    go_ret2
    exact ⟨_, rfl, by rw [J.out]; exact World.ownsRow_nil _ _ _ _, Below.refl _ _⟩
  · have J := Lib.hid (sht_yes h1)
    have G := Lib.hid h1
    have HT := Lib.hid (fun (R : List ByteArray) (hR : reach s = R) => sht_along h1 hR)
    have hbl := bL_len lessI h1
    obtain ⟨R, hR⟩ : ∃ R, reach s = R := ⟨_, rfl⟩
    have hT := HT.out R hR
    have HC := Lib.hid (movesLeftLess s p w h1 R hR hL)
    have HL := Lib.hid hL
    have HFA := Lib.hid (fun b N w1 (hl : Laid w1 p) (h2 : IMap w1 b N (lAll stk lessI R).1 (lAll stk lessI R).2) => firstAlong s b N _ _ (bL lessI s).length p w1 h1 hl h2 hT.1 (by omega))
    have HE := Lib.hid hT.2
    generalize lAll stk lessI R = st at *
    clear h1 hR hL hT HT
    go_enter Tryd.func18, Tryd.ntmps18
    go_wp2_with (first
      | (go_at_call 33; refine (implIsPond _ _ hm).mono ?_; rintro e w' ⟨rfl, rfl⟩; rw [G.out])
      | (go_at_call 34; refine HC.out.mono ?_; rintro e w1 ⟨b, rfl, hbl2, ⟨N, hM⟩, hb1⟩; have HM := Lib.hid hM; have HB := Lib.hid hb1; clear hM hb1)
      | (go_at_call 30; refine (HFA.out _ N _ (HL.out.below HB.out) HM.out).mono ?_; rintro e w2 ⟨v, rfl, hI, hb2⟩; have HI2 := Lib.hid hI; have HB2 := Lib.hid hb2; clear hI hb2))
    go_ret2
    exact ⟨_, rfl, by rw [J.out, ← HE.out]; exact ints_mono' HI2.out HB.out.size, HB.out.trans (HB2.out.mono HB.out.size)⟩
end Go.Proofs.YteoggpollgkfiaaDoor
