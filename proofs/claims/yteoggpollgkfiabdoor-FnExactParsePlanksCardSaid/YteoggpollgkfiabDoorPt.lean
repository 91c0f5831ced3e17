/- Planks as texts: spec.plText, spec.PlanksText, impl.PlanksText. -/
import Derived.Test.YteoggpollgkfiabDoorPk
import Derived.Test.YteoggpollgkfiabDoorSg
import Derived.Test.YteoggpollgkfiabDoorNum
import Derived.Test.YteoggpollgkfiabDoorShelfT
import Derived.Lib.Join
import Derived.Lib.LaidTab
namespace Go.Proofs.YteoggpollgkfiabDoor
set_option linter.unusedVariables false
open Go.RowKit

theorem Tryd.gPow : Tryd.prog.globalNamed "internal/strconv.uint64pow10" = some 2 := by kernel_rfl
theorem varBelow {P : Program} {B g : Nat} {W W' : World} {n : String} {cs : Array Value} (h : Below B W W') (hg : P.globalNamed n = some g) (hgB : g < B) (hv : W.var? P n = some cs) : W'.var? P n = some cs := by
  unfold World.var? at hv ⊢
  simp only [hg, Option.bind_some] at hv ⊢
  rw [h.block g hgB]
  exact hv
/-- the table of the powers of ten is laid -/
def Pow (w : World) : Prop := Lib.TabIs Tryd.prog w "internal/strconv.uint64pow10" .u64 Lib.pow10Tab ∧ 2 < w.heap.size
theorem Pow.below {w w' : World} (h : Pow w) (hb : Below w.heap.size w w') : Pow w' := ⟨varBelow hb Tryd.gPow h.2 h.1, Nat.lt_of_lt_of_le h.2 hb.size⟩

/-- the text of some planks -/
def txt (zs : List Int) : List UInt8 := Lib.join (zs.map fun n => Lib.decDigits n.toNat) [45]
theorem txt_nil : txt [] = [] := rfl
theorem txt_snoc (zs : List Int) (n : Int) : txt (zs ++ [n]) = if zs.length = 0 then Lib.decDigits n.toNat else txt zs ++ [45] ++ Lib.decDigits n.toNat := by
  cases zs with
  | nil => simp [txt, Lib.join_one]
  | cons z zs =>
    rw [if_neg (by simp)]
    unfold txt
    rw [List.cons_append, List.map_cons, List.map_cons, Lib.join_cons, Lib.join_cons, List.map_append, Lib.joinTail, Lib.joinTail, List.map_append, List.flatten_append]
    simp [List.append_assoc]
theorem txt_len {zs : List Int} (h : ∀ n ∈ zs, 1 ≤ n ∧ n ≤ 100) : (txt zs).length ≤ 8 * zs.length := by
  have key : ∀ l : List Int, (∀ n ∈ l, 1 ≤ n ∧ n ≤ 100) → (Lib.joinTail [45] (l.map fun n => Lib.decDigits n.toNat)).length ≤ 8 * l.length := by
    intro l
    induction l with
    | nil => intro _; simp [Lib.joinTail]
    | cons z l ih =>
      intro hl
      have h1 := ih fun m hm => hl m (List.mem_cons_of_mem _ hm)
      have h2 := hl z (List.mem_cons_self ..)
      have h3 := dig_len (n := z.toNat) (by omega)
      simp [Lib.joinTail] at h1 ⊢
      omega
  cases zs with
  | nil => simp [txt_nil]
  | cons z zs =>
    have h1 := key zs fun m hm => h m (List.mem_cons_of_mem _ hm)
    have h2 := h z (List.mem_cons_self ..)
    have h3 := dig_len (n := z.toNat) (by omega)
    unfold txt
    rw [List.map_cons, Lib.join_cons, List.length_append]
    simp
    omega
theorem txt_take {zs : List Int} {k : Nat} (h : k < zs.length) : txt (zs.take (k + 1)) = if k = 0 then Lib.decDigits (gt zs k).toNat else txt (zs.take k) ++ [45] ++ Lib.decDigits (gt zs k).toNat := by
  have e : gt zs k = zs[k] := by simp [gt, h]
  rw [List.take_succ_eq_append_getElem h, txt_snoc, e]
  have : (zs.take k).length = k := by simp; omega
  rw [this]
theorem gt_in {zs : List Int} (h : arePl zs = true) : ∀ n ∈ zs, 1 ≤ n ∧ n ≤ 100 := by
  intro n hn
  obtain ⟨j, hj, rfl⟩ := List.getElem_of_mem hn
  have e : gt zs j = zs[j] := by simp [gt, hj]
  rw [← e]
  exact (arePl_in h).2.2 j hj
def txtV (zs : List Int) : Value := if arePl zs then .tuple #[.string (bs (txt zs)), .bool true] else .tuple #[.string ⟨#[]⟩, .bool false]
theorem txtV_no {zs : List Int} (h : arePl zs = false) : txtV zs = .tuple #[.string ⟨#[]⟩, .bool false] := by simp [txtV, h]
theorem txtV_yes {zs : List Int} (h : arePl zs = true) : txtV zs = .tuple #[.string (bs (txt zs)), .bool true] := by simp [txtV, h]
theorem txtV_form (zs : List Int) : ∃ x y, txtV zs = .tuple #[.string x, .bool y] := by unfold txtV; split <;> exact ⟨_, _, rfl⟩

set_option maxHeartbeats 2000000 in
theorem plText (v : Value) (zs : List Int) (w : World) (h : Rd w v zs) (hp : arePl zs = true) :
    Calls Tryd.prog 14 #[v] w fun e w' => e = .returned (.string (bs (txt zs))) ∧ Below w.heap.size w w' := by
  have hi := arePl_in hp
  have hg := gt_in hp
  rcases h with ⟨_, rfl⟩ | ⟨b, off, cap, rfl, hb, hc, hm, hh⟩
  · simp at hi
  obtain ⟨n, hn⟩ : ∃ n, n = zs.length := ⟨_, rfl⟩
  have HN := Lib.hid hn
  have hn7 : n ≤ 7 := by omega
  have HH := Lib.hid hh
  have HI := Lib.hid hi.2.2
  have HG := Lib.hid hg
  have HT := Lib.hid (show txt (zs.take n) = txt zs by rw [hn, List.take_length])
  rw [← hn]
  clear hi hg hh hc hm hp hn
  go_enter Tryd.func14, Tryd.ntmps14
  go_wp2
  go_loopw [3, 8] (fun o i wr => ∃ k : Nat, k ≤ n ∧ i = .int .i64 k ∧ o = .string (bs (txt (zs.take k))) ∧ Hid (Below w.heap.size w wr)) (fun _ i _ => n - (intOf i).toNat)
  case atStart => exact ⟨0, Nat.zero_le _, rfl, rfl, Lib.hid (Below.refl _ _)⟩
  case round =>
    obtain ⟨k, hk, rfl, rfl, hB⟩ := hrel
    by_cases hlt : k < n
    · have hlt' : (k : Int) < n := by omega
      have hkz : k < zs.length := by have := HN.out; omega
      have c := (hB.out.cell (p := ⟨b, off + k, none⟩) hb).trans (HH.out k hkz)
      have hx := HI.out k hkz
      have T := Lib.hid (txt_take hkz)
      have hl1 := txt_len (zs := zs.take k) (fun m hm => HG.out m (List.mem_of_mem_take hm))
      have hl2 : (zs.take k).length ≤ 7 := by simp; omega
      have hl3 := bs_size (txt (zs.take k))
      obtain ⟨m, hmz⟩ : ∃ m : Nat, gt zs k = (m : Int) := ⟨(gt zs k).toNat, by omega⟩
      rw [hmz] at c T hx
      rw [Int.toNat_natCast] at T
      have hd := dig_len (n := m) (by omega)
      have hd2 := bs_size (Lib.decDigits m)
      have N1 := Lib.hid (fun W => l1Num m W (by omega))
      have A1 := Lib.hid (bs_app (txt (zs.take k)) [45])
      have A2 := Lib.hid (bs_app (txt (zs.take k) ++ [45]) (Lib.decDigits m))
      have A3 := Lib.hid (bs_app (txt (zs.take k)) (Lib.decDigits m))
      have hl4 : (txt (zs.take k)).length ≤ 56 := by omega
      have Z0 := Lib.hid (show k = 0 → txt (zs.take k) = [] from fun h => by subst h; rfl)
      clear hl1 hl2 hmz
      by_cases hk0 : k = 0
      · have T2 := Lib.hid (show bs (txt (zs.take k)) ++ bs (Lib.decDigits m) = bs (txt (zs.take (k + 1))) by rw [A3.out, T.out, if_pos hk0, Z0.out hk0]; rfl)
        subst hk0
        rw [Nat.add_zero] at c
        generalize txt (zs.take 0) = t at *
        generalize Lib.decDigits m = d at *
        clear hx
        go_wp2_with (go_at_call 24; refine (N1.out _).mono ?_; rintro e w1 ⟨rfl, hb1⟩; have B2 := Lib.hid (hB.out.trans (hb1.mono hB.out.size)); clear hb1)
        go_roundw
        case rel => exact ⟨0 + 1, by omega, by go_num, by rw [T2.out], B2⟩
        case measure => (simp [intOf]; try omega)
      · have T2 := Lib.hid (show bs (txt (zs.take k)) ++ ⟨#[45]⟩ ++ bs (Lib.decDigits m) = bs (txt (zs.take (k + 1))) by
          rw [T.out, if_neg hk0]
          show bs (txt (zs.take k)) ++ bs [45] ++ bs (Lib.decDigits m) = _
          rw [A1.out, A2.out])
        have hk0' : (0 : Int) < (k : Int) := by omega
        generalize txt (zs.take k) = t at *
        generalize Lib.decDigits m = d at *
        clear hx
        go_wp2_with (go_at_call 24; refine (N1.out _).mono ?_; rintro e w1 ⟨rfl, hb1⟩; have B2 := Lib.hid (hB.out.trans (hb1.mono hB.out.size)); clear hb1)
        go_roundw
        case rel => exact ⟨k + 1, by omega, by go_num, by rw [T2.out], B2⟩
        case measure => (simp [intOf]; try omega)
    · obtain rfl : k = n := by omega
      rw [HT.out]
      go_wp2
      go_ret
      exact ⟨rfl, hB.out⟩
set_option maxHeartbeats 1000000 in
theorem specText (v : Value) (zs : List Int) (w : World) (h : Rd w v zs) (hn : zs.length ≤ 1048576) :
    Calls Tryd.prog 5 #[v] w fun e w' => e = .returned (txtV zs) ∧ Below w.heap.size w w' := by
  have P := Lib.hid (plGood v zs w h hn)
  cases hp : arePl zs
  · have J := Lib.hid (txtV_no hp)
    have G := Lib.hid hp
    clear hp h
    go_enter Tryd.func5, Tryd.ntmps5
    go_wp2_with (go_at_call 13; refine P.out.mono ?_; rintro e w1 ⟨rfl, rfl⟩; rw [G.out])
    go_ret2
    exact ⟨ret_w J.out.symm, Below.refl _ _⟩
  · have J := Lib.hid (txtV_yes hp)
    have G := Lib.hid hp
    have HR := Lib.hid h
    clear hp h
    go_enter Tryd.func5, Tryd.ntmps5
    go_wp2_with (first
      | (go_at_call 13; refine P.out.mono ?_; rintro e w1 ⟨rfl, rfl⟩; rw [G.out])
      | (go_at_call 14; refine (plText v zs _ HR.out G.out).mono ?_; rintro e w2 ⟨rfl, hb2⟩))
    go_ret2
    exact ⟨ret_w J.out.symm, hb2⟩
end Go.Proofs.YteoggpollgkfiabDoor
