/- spec.ParsePlanks. -/
import Derived.Test.YteoggpollgkfiabDoorRw
namespace Go.Proofs.YteoggpollgkfiabDoor
set_option linter.unusedVariables false
open Go.RowKit

/-- the planks that a text is read as -/
def pL (s : ByteArray) : List Int := if isTx s then out s else []
theorem pL_no {s : ByteArray} (h : isTx s = false) : pL s = [] := by simp [pL, h]
theorem pL_yes {s : ByteArray} (h : isTx s = true) : pL s = out s := by simp [pL, h]
theorem pL_len (s : ByteArray) : (pL s).length ≤ 16777216 := by
  cases h : isTx s
  · rw [pL_no h]; exact Nat.zero_le _
  · rw [pL_yes h]
    have := (arePl_in (isTx_in h).2.1).2.1
    omega
theorem isTx_1 {s : ByteArray} (h : 30 < s.size) : isTx s = false := by
  unfold isTx; rw [decide_eq_false (by omega)]; rfl
theorem isTx_2 {s : ByteArray} (h : arePl (out s) = false) : isTx s = false := by
  unfold isTx; rw [h]; simp
theorem isTx_3 {s : ByteArray} (h : ¬ bs (txt (out s)) = s) : isTx s = false := by
  unfold isTx; rw [decide_eq_false h]; simp
theorem isTx_4 {s : ByteArray} (h1 : s.size ≤ 30) (h2 : arePl (out s) = true) (h3 : bs (txt (out s)) = s) : isTx s = true := by
  unfold isTx; rw [decide_eq_true h1, h2, decide_eq_true h3]; rfl
theorem neq_walk {a b : ByteArray} (h : ¬ a = b) : (a.toList == b.toList) = false := by
  rw [ByteArray.toList_eq, ByteArray.toList_eq]
  apply Bool.eq_false_iff.2
  intro e
  exact h (ByteArray.ext (Array.toList_inj.1 (by simpa using e)))
theorem words_pos {W : List ByteArray} {l : List UInt8} (h : W.map (·.data.toList) = spl l) : 0 < W.length := by
  have h1 := congrArg List.length h
  rw [List.length_map] at h1
  have h2 : (spl l).length ≠ 0 := fun e => spl_ne _ (List.length_eq_zero_iff.1 e)
  omega
set_option maxHeartbeats 4000000 in
theorem specParse (s : ByteArray) (w : World) (hs : s.size ≤ 1048576) :
    Calls Tryd.prog 9 #[.string s] w fun e w' => ∃ v, e = .returned (.tuple #[v, .bool (isTx s)]) ∧ Ints w' w.heap.size v (pL s) ∧ Below w.heap.size w w' := by
  by_cases h30 : 30 < s.size
  · have T := Lib.hid (isTx_1 h30)
    have L := Lib.hid (pL_no T.out)
    have hi : (30 : Int) < (s.size : Int) := by omega
    clear h30
    go_enter Tryd.func9, Tryd.ntmps9
    go_wp2
    go_ret2
    exact ⟨_, by rw [T.out]; rfl, by rw [L.out]; exact World.ownsRow_nil _ _ _ _, Below.refl _ _⟩
  · have hi : ¬ (30 : Int) < (s.size : Int) := by omega
    have h30' : s.size ≤ 30 := by omega
    have SP := Lib.hid (l1Split s w (by omega))
    have SM := Lib.hid (spl_mem s.data.toList)
    have SL := Lib.hid (spl_len s.data.toList)
    have SZ : s.data.toList.length = s.size := by rw [Array.length_toList]; rfl
    have HSZ := Lib.hid SZ
    clear SZ h30
    go_enter Tryd.func9, Tryd.ntmps9
    go_wp2_with (go_at_call 18; refine SP.out.mono ?_; rintro e w1 ⟨v0, W, rfl, hS, hW, hb⟩; have HW := Lib.hid hW; have HS := Lib.hid hS; have HB1 := Lib.hid hb; have hp := words_pos HW.out; obtain ⟨g, n, cap, rfl, hn, hnc, hcm, hB0, hg, hc⟩ := HS.out.form hp; have HN := Lib.hid hn; have HC := Lib.hid hc; clear hS hW hb hn hnc hcm hc hp)
    have hn31 : n ≤ 31 := by
      have h1 := congrArg List.length HW.out
      rw [List.length_map] at h1
      have := SL.out
      have := HSZ.out
      have := HN.out
      omega
    have OUT := Lib.hid (show W.map (fun x => rdW x.data.toList) = out s by
      unfold out; rw [← HW.out, List.map_map]; rfl)
    have RDS := Lib.hid (show ∀ j, j < n → (gs W j).size ≤ 1000 from fun j hj => by
      have hjl : j < W.length := by have := HN.out; omega
      have e : gs W j = W[j] := by simp [gs, hjl]
      have h1 : (gs W j).data.toList ∈ spl s.data.toList := by
        rw [← HW.out, e]; exact List.mem_map_of_mem (List.getElem_mem _)
      have h2 := SM.out _ h1
      have h3 := HSZ.out
      have h4 : (gs W j).data.toList.length = (gs W j).size := by rw [Array.length_toList]; rfl
      omega)
    go_loopw [4, 13] (fun o i wr => ∃ k : Nat, k ≤ n ∧ i = .int .i64 k ∧ Hid (Ints wr w1.heap.size o ((W.take k).map fun x => rdW x.data.toList)) ∧ Hid (Below w1.heap.size w1 wr)) (fun _ i _ => n - (intOf i).toNat)
    case atStart => exact ⟨0, Nat.zero_le _, rfl, Lib.hid (World.ownsRow_nil _ _ _ _), Lib.hid (Below.refl _ _)⟩
    case round =>
      obtain ⟨k, hk, rfl, hI, hB⟩ := hrel
      have hle := hB.out.size
      by_cases hlt : k < n
      · have hlt' : (k : Int) < n := by omega
        have hkl : k < W.length := by have := HN.out; omega
        have c := (hB.out.cell (p := ⟨g, k, none⟩) hg).trans (HC.out k hlt)
        have R := Lib.hid (fun wx => l1Read (gs W k) wx (RDS.out k hlt))
        have T := Lib.hid (show (W.take (k + 1)).map (fun x => rdW x.data.toList) = (W.take k).map (fun x => rdW x.data.toList) ++ [rdW (gs W k).data.toList] by
          have e : gs W k = W[k] := by simp [gs, hkl]
          rw [List.take_succ_eq_append_getElem hkl, e, List.map_append]; rfl)
        have hl : ((W.take k).map fun x => rdW x.data.toList).length < 16777216 := by simp; omega
        have HL := Lib.hid hl
        clear hl hkl
        generalize (W.take k).map (fun x => rdW x.data.toList) = zs at *
        generalize rdW (gs W k).data.toList = z at *
        generalize gs W k = x at *
        go_wp2_with (first
          | (go_at_call 19; refine (R.out _).mono ?_; rintro e w' ⟨rfl, rfl⟩)
          | (at_builtin; refine wpList_app wr rfl _ _ rfl w1.heap.size _ zs rfl hI.out z rfl HL.out hle rfl ?_; intro v' w2 hI2 hb2 hg2; have I2 := Lib.hid hI2; have B2 := Lib.hid (hB.out.trans hb2); clear hI2 hb2 hg2))
        go_roundw
        case rel => exact ⟨k + 1, by omega, by go_num, by rw [T.out]; exact I2, B2⟩
        case measure => (simp [intOf]; try omega)
      · obtain rfl : k = n := by omega
        have e : (W.take k).map (fun x => rdW x.data.toList) = out s := by
          rw [List.take_of_length_le (by have := HN.out; omega), OUT.out]
        rw [e] at hI
        have hol : (out s).length ≤ 1048576 := by
          rw [← OUT.out, List.length_map]; have := HN.out; omega
        have PG := Lib.hid (fun v (h : Rd wr v (out s)) => plGood v (out s) wr h hol)
        clear e hol
        cases hp : arePl (out s)
        · have T := Lib.hid (isTx_2 hp)
          have L := Lib.hid (pL_no T.out)
          have G := Lib.hid hp
          clear hp
          go_wp2_with (go_at_call 13; refine (PG.out _ hI.out.rd).mono ?_; rintro e w' ⟨rfl, rfl⟩; rw [G.out])
          go_ret2
          exact ⟨_, by rw [T.out]; rfl, by rw [L.out]; exact World.ownsRow_nil _ _ _ _, HB1.out.trans (hB.out.mono HB1.out.size)⟩
        · have G := Lib.hid hp
          have PT := Lib.hid (fun v (h : Rd wr v (out s)) => plText v (out s) wr h hp)
          by_cases he : bs (txt (out s)) = s
          · have T := Lib.hid (isTx_4 h30' hp he)
            have L := Lib.hid (pL_yes T.out)
            rw [he] at PT
            clear hp he
            go_wp2_with (first
              | (go_at_call 13; refine (PG.out _ hI.out.rd).mono ?_; rintro e w' ⟨rfl, rfl⟩; rw [G.out])
              | (go_at_call 14; refine (PT.out _ hI.out.rd).mono ?_; rintro e w2 ⟨rfl, hb2⟩; have B2 := Lib.hid (hB.out.trans (hb2.mono hle)); have I2 := Lib.hid (hI.out.below hb2); clear hb2))
            go_ret2
            exact ⟨_, by rw [T.out]; rfl, by rw [L.out]; exact ints_mono' I2.out HB1.out.size, HB1.out.trans (B2.out.mono HB1.out.size)⟩
          · have T := Lib.hid (isTx_3 he)
            have L := Lib.hid (pL_no T.out)
            have hnw := neq_walk he
            clear hp he
            generalize bs (txt (out s)) = t at *
            go_wp2_with (first
              | (go_at_call 13; refine (PG.out _ hI.out.rd).mono ?_; rintro e w' ⟨rfl, rfl⟩; rw [G.out])
              | (go_at_call 14; refine (PT.out _ hI.out.rd).mono ?_; rintro e w2 ⟨rfl, hb2⟩; have B2 := Lib.hid (hB.out.trans (hb2.mono hle)); clear hb2))
            go_ret2
            exact ⟨_, by rw [T.out]; rfl, by rw [L.out]; exact World.ownsRow_nil _ _ _ _, HB1.out.trans (B2.out.mono HB1.out.size)⟩
end Go.Proofs.YteoggpollgkfiabDoor
