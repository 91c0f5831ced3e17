/- Regions that send on a channel with room, or choose by a select of one receive and a default, within a walk: nobody else is there. -/
import Derived.Test.YtmlokapbholeoabRows
import Derived.WalkKit
import Derived.ProofKit
import Derived.Conc.LoneCalls
import Derived.Conc.LoneSelect
import Derived.Lib.Hide
namespace Go.Proofs.Ytmlokapbholeoab
set_option linter.unusedVariables false
open Go.RowKit Go.Conc

/-- the operations of a region from the list l on come to Q -/
def OpsTo (P : Program) (ops : Array Oper) (Q : Exit → Act → World → Prop) (l : List Nat) (a : Act) (w : World) : Prop :=
  ∀ (b : Frame) (k : List Item) (cs : List Frame), ∃ e a' w', Q e a' w' ∧ Arrives P (lone (b.at a (.inRegion ops l :: k)) cs w) b k cs e a' w'
section
variable {P : Program} {ops : Array Oper} {Q : Exit → Act → World → Prop} {a : Act} {w : World} {i : Nat} {rest : List Nat} {o : Oper}
theorem OpsTo.region {id : Nat} (h : OpsTo P ops Q (List.range ops.size) a w) : (Code.region id ops false).wp P Q a w :=
  fun b k cs => let ⟨e, a', w', q, r⟩ := h b k cs; ⟨e, a', w', q, .of_steps (.one step_region) r⟩
theorem OpsTo.of_wp {l : List Nat} (h : wpOps P ops Q l a w) : OpsTo P ops Q l a w := fun b k cs => wp_ops l a w h b k cs
theorem OpsTo.nil (h : Q .normal a w) : OpsTo P ops Q [] a w := fun b k cs => ⟨.normal, a, w, h, .one step_region_end⟩
theorem OpsTo.value {v : Value} {w' : World} (ho : ops[i]? = some o) (hw : Region.wanted o (yielded ops a.tmps) = true) (hr : (execOp a.eval o).run P w = .ok (.value v) w')
    (h : OpsTo P ops Q rest (a.put o.dst v) w') : OpsTo P ops Q (i :: rest) a w := by
  intro b k cs
  obtain ⟨e, a', w'', hq, harr⟩ := h b k cs
  have hg := stepG_op (P := P) (b := b) (k := k) (cs := cs) (w := w) (rest := rest) ho hw
  have hfin : (b.at a (.inRegion ops (i :: rest) :: k)).finish v = b.at (a.put o.dst v) (.inRegion ops rest :: k) := by
    rw [Frame.finish_at, ho]; rfl
  refine ⟨e, a', w'', hq, .of_steps (.one (step_lone_go ?_)) harr⟩
  rw [hg, ← hfin]; simp [stepG.apply, hr]
/-- a communication is handed up to the machine, in whatever frame -/
theorem stepG_commAny {b : Frame} {k : List Item} {cs : List Frame} {cases : Array CommCase} {blocking : Bool} {shape : CommShape} {w' : World} (ho : ops[i]? = some o) (hw : Region.wanted o (yielded ops a.tmps) = true)
    (hr : (execOp a.eval o).run P w = .ok (.comm cases blocking shape) w') :
    ∃ es, stepG P true (G (b.at a (.inRegion ops (i :: rest) :: k)) cs) w = .comm (G (b.at a (.inRegion ops (i :: rest) :: k)) cs) cases blocking shape w' es := by
  rw [stepG_oper ho hw]
  simp only [stepG.apply, Sem.runT_eq, if_true, hr, GStep.after, G, Frame.at]
  exact ⟨_, rfl⟩
theorem OpsTo.send {c cap s r : Nat} {buf : Array Value} {tm : Bool} {v z : Value} (ho : ops[i]? = some o) (hw : Region.wanted o (yielded ops a.tmps) = true)
    (hr : (execOp a.eval o).run P w = .ok (.comm #[scase c v z] true .send) w) (hc : w.heap[c]? = some (.chan cap buf false s r tm)) (hroom : buf.size < cap)
    (h : OpsTo P ops Q rest (a.put o.dst undef) (w.setChan c cap (buf.push v) false (s + 1) r tm)) : OpsTo P ops Q (i :: rest) a w := by
  intro b k cs
  obtain ⟨e, a', w'', hq, harr⟩ := h b k cs
  obtain ⟨es, hg⟩ := stepG_commAny (P := P) (b := b) (k := k) (cs := cs) (rest := rest) ho hw hr
  have hfin : (b.at a (.inRegion ops (i :: rest) :: k)).finish undef = b.at (a.put o.dst undef) (.inRegion ops rest :: k) := by
    rw [Frame.finish_at, ho]; rfl
  refine ⟨e, a', w'', hq, .of_steps (.one ?_) harr⟩
  have := step_lone_send_room hg hc hroom
  rw [hfin] at this
  exact this
theorem OpsTo.selRecv {c cap s r : Nat} {buf : Array Value} {tm closed : Bool} {z : Value} (ho : ops[i]? = some o) (hw : Region.wanted o (yielded ops a.tmps) = true)
    (hr : (execOp a.eval o).run P w = .ok (.comm #[rcase c z] false .select) w) (hc : w.heap[c]? = some (.chan cap buf closed s r tm)) (hsome : 0 < buf.size)
    (h : OpsTo P ops Q rest (a.put o.dst (.tuple #[goInt 0, .bool true, buf.getD 0 undef])) (w.setChan c cap (buf.extract 1 buf.size) closed s (r + 1) tm)) : OpsTo P ops Q (i :: rest) a w := by
  intro b k cs
  obtain ⟨e, a', w'', hq, harr⟩ := h b k cs
  obtain ⟨es, hg⟩ := stepG_commAny (P := P) (b := b) (k := k) (cs := cs) (rest := rest) ho hw hr
  have hfin : ∀ v, (b.at a (.inRegion ops (i :: rest) :: k)).finish v = b.at (a.put o.dst v) (.inRegion ops rest :: k) := by
    intro v; rw [Frame.finish_at, ho]; rfl
  refine ⟨e, a', w'', hq, .of_steps (.one ?_) harr⟩
  have := step_lone_select_recv_buf hg hc hsome
  rw [hfin] at this
  exact this
theorem OpsTo.selNone {c cap s r : Nat} {tm : Bool} {z : Value} (ho : ops[i]? = some o) (hw : Region.wanted o (yielded ops a.tmps) = true)
    (hr : (execOp a.eval o).run P w = .ok (.comm #[rcase c z] false .select) w) (hc : w.heap[c]? = some (.chan cap #[] false s r tm))
    (h : OpsTo P ops Q rest (a.put o.dst (.tuple #[goInt (-1), .bool false, z])) w) : OpsTo P ops Q (i :: rest) a w := by
  intro b k cs
  obtain ⟨e, a', w'', hq, harr⟩ := h b k cs
  obtain ⟨es, hg⟩ := stepG_commAny (P := P) (b := b) (k := k) (cs := cs) (rest := rest) ho hw hr
  have hfin : ∀ v, (b.at a (.inRegion ops (i :: rest) :: k)).finish v = b.at (a.put o.dst v) (.inRegion ops rest :: k) := by
    intro v; rw [Frame.finish_at, ho]; rfl
  refine ⟨e, a', w'', hq, .of_steps (.one ?_) harr⟩
  have := step_lone_select_default hg hc
  rw [hfin] at this
  exact this
/-- the same with the frame written out -/
theorem OpsTo.val {tmps : Array Value} {defers : List Deferred} (n : Nat) (v : Value) (w' : World) (ho : ops[i]? = some o) (hd : o.dst = some n) (hw : Region.wanted o (yielded ops tmps) = true) (hr : (execOp (Act.eval { tmps := tmps, defers := defers }) o).run P w = .ok (.value v) w')
    (h : OpsTo P ops Q rest { tmps := tmps.setIfInBounds n v, defers := defers } w') : OpsTo P ops Q (i :: rest) { tmps := tmps, defers := defers } w :=
  OpsTo.value ho hw hr (by rw [hd]; exact h)
theorem OpsTo.snd {tmps : Array Value} {defers : List Deferred} {c cap s r : Nat} {buf : Array Value} {tm : Bool} {v z : Value} (ho : ops[i]? = some o) (hd : o.dst = none) (hw : Region.wanted o (yielded ops tmps) = true)
    (hr : (execOp (Act.eval { tmps := tmps, defers := defers }) o).run P w = .ok (.comm #[scase c v z] true .send) w) (hc : w.heap[c]? = some (.chan cap buf false s r tm)) (hroom : buf.size < cap)
    (h : OpsTo P ops Q rest { tmps := tmps, defers := defers } (w.setChan c cap (buf.push v) false (s + 1) r tm)) : OpsTo P ops Q (i :: rest) { tmps := tmps, defers := defers } w :=
  OpsTo.send ho hw hr hc hroom (by rw [hd]; exact h)
theorem OpsTo.rcv {tmps : Array Value} {defers : List Deferred} (n : Nat) {c cap s r : Nat} {buf : Array Value} {tm closed : Bool} {z : Value} (u : Value) (hu : buf.getD 0 undef = u) (ho : ops[i]? = some o) (hd : o.dst = some n) (hw : Region.wanted o (yielded ops tmps) = true)
    (hr : (execOp (Act.eval { tmps := tmps, defers := defers }) o).run P w = .ok (.comm #[rcase c z] false .select) w) (hc : w.heap[c]? = some (.chan cap buf closed s r tm)) (hsome : 0 < buf.size)
    (h : OpsTo P ops Q rest { tmps := tmps.setIfInBounds n (.tuple #[goInt 0, .bool true, u]), defers := defers } (w.setChan c cap (buf.extract 1 buf.size) closed s (r + 1) tm)) : OpsTo P ops Q (i :: rest) { tmps := tmps, defers := defers } w :=
  OpsTo.selRecv ho hw hr hc hsome (by rw [hd, hu]; exact h)
theorem OpsTo.dfl {tmps : Array Value} {defers : List Deferred} (n : Nat) {c cap s r : Nat} {tm : Bool} {z : Value} (ho : ops[i]? = some o) (hd : o.dst = some n) (hw : Region.wanted o (yielded ops tmps) = true)
    (hr : (execOp (Act.eval { tmps := tmps, defers := defers }) o).run P w = .ok (.comm #[rcase c z] false .select) w) (hc : w.heap[c]? = some (.chan cap #[] false s r tm))
    (h : OpsTo P ops Q rest { tmps := tmps.setIfInBounds n (.tuple #[goInt (-1), .bool false, z]), defers := defers } w) : OpsTo P ops Q (i :: rest) { tmps := tmps, defers := defers } w :=
  OpsTo.selNone ho hw hr hc (by rw [hd]; exact h)
end
end Go.Proofs.Ytmlokapbholeoab
