/- impl.PlanksText. -/
import Derived.Test.YteoggpollgkfiabDoorPt
namespace Go.Proofs.YteoggpollgkfiabDoor
set_option linter.unusedVariables false
open Go.RowKit

theorem grow_below (w : World) (k : Nat) (os : Array Obj) : Below w.heap.size w (Go.Sort.grow (w.drewN k) os) := by
  refine ⟨rfl, rfl, rfl, by simp [Go.Sort.grow], fun j hj => ?_⟩
  simp only [Go.Sort.grow]
  rw [Array.getElem?_append_left (by simpa using hj)]
  rfl
theorem itoa (n : Nat) (w : World) (h : n ≤ 1000000) (hP : Pow w) :
    Calls Tryd.prog 16 #[.int .i64 (n : Int)] w fun e w' => e = .returned (.string (bs (Lib.decDigits n))) ∧ Below w.heap.size w w' := by
  refine (Tryd.strconv_Itoa (n : Int) (by omega) (by omega) w hP.1).mono ?_
  rintro e w' ⟨rfl, k, os, rfl⟩
  refine ⟨?_, grow_below w k os⟩
  have e : Lib.itoa (n : Int) = Lib.decDigits n := by unfold Lib.itoa; rw [if_neg (by omega)]; simp
  rw [e]; rfl
/-- the words of some planks -/
def wds (zs : List Int) : List ByteArray := zs.map fun n => bs (Lib.decDigits n.toNat)
theorem wds_len (zs : List Int) : (wds zs).length = zs.length := by simp [wds]
theorem wds_take {zs : List Int} {k : Nat} (h : k < zs.length) : wds (zs.take (k + 1)) = wds (zs.take k) ++ [bs (Lib.decDigits (gt zs k).toNat)] := by
  have e : gt zs k = zs[k] := by simp [gt, h]
  rw [List.take_succ_eq_append_getElem h, e]
  simp only [wds, List.map_append, List.map_cons, List.map_nil]
theorem wds_txt (zs : List Int) : Lib.join ((wds zs).map (·.data.toList)) [45] = txt zs := by
  unfold wds txt
  rw [List.map_map]
  congr 1
theorem join (v : Value) (l : List ByteArray) (B : Nat) (w : World) (hS : Strg w B v l) (h0 : 0 < l.length) (h1 : l.length ≤ 1000) (hlen : (Lib.join (l.map (·.data.toList)) [45]).length ≤ 100000) :
    Calls Tryd.prog 17 #[v, .string ⟨#[45]⟩] w fun e w' => e = .returned (.string (bs (Lib.join (l.map (·.data.toList)) [45]))) ∧ Below w.heap.size w w' := by
  obtain ⟨g, n, cap, rfl, rfl, hnc, hcm, hB, hg, hc⟩ := hS.form h0
  exact Tryd.strings_Join g 0 cap l ⟨#[45]⟩ w (fun j x hj => by
    have hjl : j < l.length := (List.getElem?_eq_some_iff.1 hj).1
    rw [Nat.zero_add, hc j hjl]
    simp only [gs, List.getD_eq_getElem?_getD, hj]; rfl) hg (by omega) hnc (Nat.le_trans hlen (by decide))
set_option maxHeartbeats 2000000 in
theorem implText (v : Value) (zs : List Int) (w : World) (h : Rd w v zs) (hn : zs.length ≤ 1048576) (hP : Pow w) :
    Calls Tryd.prog 7 #[v] w fun e w' => e = .returned (txtV zs) ∧ Below w.heap.size w w' := by
  have P := Lib.hid (implArePl v zs w h hn)
  cases hp : arePl zs
  · have J := Lib.hid (txtV_no hp)
    have G := Lib.hid hp
    clear hp h hP
    go_enter Tryd.func7, Tryd.ntmps7
    go_wp2_with (go_at_call 15; refine P.out.mono ?_; rintro e w1 ⟨rfl, rfl⟩; rw [G.out])
    go_ret2
    exact ⟨ret_w J.out.symm, Below.refl _ _⟩
  · have J := Lib.hid (txtV_yes hp)
    have G := Lib.hid hp
    have HP := Lib.hid hP
    have hi := arePl_in hp
    rcases h with ⟨_, rfl⟩ | ⟨b, off, cap, rfl, hb, hc, hm, hh⟩
    · simp at hi
    obtain ⟨n, hn⟩ : ∃ n, n = zs.length := ⟨_, rfl⟩
    have HN := Lib.hid hn
    have hn7 : n ≤ 7 := by omega
    have HH := Lib.hid hh
    have HI := Lib.hid hi.2.2
    have hn1 : 0 < n := by omega
    have HT := Lib.hid (show wds (zs.take n) = wds zs by rw [hn, List.take_length])
    have HTL := Lib.hid (txt_len (gt_in hp))
    rw [← hn] at P ⊢
    clear hi hh hc hm hp hn hP
    go_enter Tryd.func7, Tryd.ntmps7
    go_wp2_with (go_at_call 15; refine P.out.mono ?_; rintro e w1 ⟨rfl, rfl⟩; rw [G.out])
    go_loopw [4, 12] (fun o i wr => ∃ k : Nat, k ≤ n ∧ i = .int .i64 k ∧ Hid (Strg wr w.heap.size o (wds (zs.take k))) ∧ Hid (Below w.heap.size w wr)) (fun _ i _ => n - (intOf i).toNat)
    case atStart => exact ⟨0, Nat.zero_le _, rfl, Lib.hid (World.ownsRow_nil _ _ _ _), Lib.hid (Below.refl _ _)⟩
    case round =>
      obtain ⟨k, hk, rfl, hS, hB⟩ := hrel
      have hle := hB.out.size
      by_cases hlt : k < n
      · have hlt' : (k : Int) < n := by omega
        have hkz : k < zs.length := by have := HN.out; omega
        have c := (hB.out.cell (p := ⟨b, off + k, none⟩) hb).trans (HH.out k hkz)
        have hx := HI.out k hkz
        have T := Lib.hid (wds_take hkz)
        obtain ⟨m, hmz⟩ : ∃ m : Nat, gt zs k = (m : Int) := ⟨(gt zs k).toNat, by omega⟩
        rw [hmz] at c T hx
        rw [Int.toNat_natCast] at T
        have N1 := Lib.hid (fun W hW => itoa m W (by omega) hW)
        have P1 := Lib.hid (HP.out.below hB.out)
        have hl : (wds (zs.take k)).length < 16777216 := by rw [wds_len]; simp; omega
        clear hx hmz
        generalize bs (Lib.decDigits m) = d at *
        generalize wds (zs.take k) = l at *
        go_wp2_with (first
          | (go_at_call 16; refine (N1.out _ P1.out).mono ?_; rintro e w1 ⟨rfl, hb1⟩; have B2 := Lib.hid (hB.out.trans (hb1.mono hle)); have S2 := Lib.hid (hS.out.below hb1); clear hb1)
          | (at_builtin; refine wpList_appS w1 rfl _ _ rfl w.heap.size _ l rfl S2.out d w1.heap.size rfl rfl hl B2.out.size rfl ?_; intro v' w2 hS3 hb3 hg3; have S3 := Lib.hid hS3; have B3 := Lib.hid (B2.out.trans hb3); clear hS3 hb3 hg3))
        go_roundw
        case rel => exact ⟨k + 1, by omega, by go_num, by rw [T.out]; exact S3, B3⟩
        case measure => (simp [intOf]; try omega)
      · obtain rfl : k = n := by omega
        rw [HT.out] at hS
        have WT := Lib.hid (wds_txt zs)
        have WL := wds_len zs
        have N2 := Lib.hid (join _ (wds zs) w.heap.size _ hS.out (by have := HN.out; omega) (by have := HN.out; omega) (by rw [WT.out]; have := HTL.out; have := HN.out; omega))
        rw [WT.out] at N2
        clear WL hS
        go_wp2_with (go_at_call 17; refine N2.out.mono ?_; rintro e w2 ⟨rfl, hb2⟩)
        go_ret2
        exact ⟨ret_w J.out.symm, hB.out.trans (hb2.mono hle)⟩
end Go.Proofs.YteoggpollgkfiabDoor
