/-
  A string's bytes behind a row of the call's own; strings.Repeat; a match as far back as may be. The conditions stand in each.
-/
import Derived.Test.YtggkmbnogdikkaaBytes
import Derived.Test.YtggkmbnogdikkaaNums
import Derived.Test.YtggkmbnogdikkaaDeflFar
import Derived.Test.YtggkmbnogdikkaaShelf
import Derived.Lib.AppendStr
namespace Go.Proofs.Ytggkmbnogdikkaa.Fx
open Go Go.RowKit Go.Joins
set_option linter.unusedVariables false
theorem strCells_nums (s : ByteArray) : Lib.strCells s = (numsOf s).map byteVal := by
  unfold Lib.strCells numsOf byteVal
  rw [List.map_map]
  rfl
theorem numsOf_length (s : ByteArray) : (numsOf s).length = s.size := by
  unfold numsOf
  rw [List.length_map, Array.length_toList]
  rfl
/-- A string's bytes behind an own row: the old value reads as before. -/
theorem run_append_text {P : Program} (w : World) (base : Nat) (t u ty e : TypeId) (ht : P.underlying t = some (.slice e)) (hu : P.underlying u = some .string) (hinfo : (P.info? e).map (fun i => (i.zero, i.size, i.bytes)) = some (some (.int .u8 0), 1, 1))
    (v : Value) (n : Nat) (zs : List Nat) (hown : w.ownsRow base e 1 v n (zs.map byteVal)) (hn : 0 < n) (s : ByteArray) (hl : n + s.size ≤ 1000000) (hbase : base ≤ w.heap.size) :
    ∃ v' w', (Builtin.append_ #[t, u] ty #[v, .string s]).run P w = .ok v' w' ∧ w'.ownsRow base e 1 v' (n + s.size) ((zs ++ numsOf s).map byteVal) ∧ w'.ownsRow base e 1 v n (zs.map byteVal) ∧ w.grownBy w' v.ownBlock := by
  cases hi : P.info? e with
  | none => rw [hi] at hinfo; cases hinfo
  | some i =>
    rw [hi] at hinfo
    simp only [Option.map_some, Option.some.injEq, Prod.mk.injEq] at hinfo
    obtain ⟨hz, hsize, hby⟩ := hinfo
    obtain ⟨v', w', hrun, r1, r2, _⟩ := Lib.run_append_own_string (P := P) w base t u ty e i ht hu hi hz hsize hby v n (zs.map byteVal) hown s (by unfold maxLen; omega) (by omega) hbase
    refine ⟨v', w', hrun, ?_, ?_, r2⟩
    · rw [List.map_append, ← strCells_nums]
      exact r1
    · have hxl : (zs.map byteVal).length = n := by simpa using hown.1
      rcases hown.2 with ⟨rfl, rfl⟩ | ⟨g, cap, cur, rfl, hb, hg, hnc, hcm, hcs, htake⟩
      · omega
      · by_cases hroom : n + s.size ≤ cap
        · have hr := Lib.run_append_room_string (P := P) w t u ty e i ht hu hi hsize g n cap cur hg s hroom (by omega)
          rw [hrun] at hr
          obtain ⟨rfl, rfl⟩ : v' = _ ∧ w' = _ := by simpa using hr
          refine ⟨hown.1, .inr ⟨g, cap, _, rfl, hb, setRow_heap w g cur _ e _ hg, hnc, hcm, ?_, ?_⟩⟩
          · simp only [List.size_toArray, List.length_append, List.length_take, List.length_drop, Array.length_toList, Lib.strCells_length]
            omega
          · have ht' : cur.toList.take n = zs.map byteVal := by simpa using htake
            rw [ht', Nat.mul_one, ← hxl]
            exact List.take_left
        · have holds : ∀ j u, (zs.map byteVal)[j]? = some u → w.cell? ((⟨g, 0, none⟩ : Addr).add j) = some u := hown.cells (g := g) rfl
          have hr := Lib.run_append_grow_string (P := P) w t u ty e i (.int .u8 0) ht hu hi hz ⟨g, 0, none⟩ n cap (zs.map byteVal) (by rw [hsize]; simpa using hxl) holds s (by omega) (by omega) (by rw [hby]; exact growslice_fits (by omega) (by omega))
          rw [hrun] at hr
          obtain ⟨rfl, rfl⟩ : v' = _ ∧ w' = _ := by simpa using hr
          exact owns_kept hown (fun k hk => Go.heap_alloc_old w.drew _ (hown.lt k hk).2)
theorem wpList_append_text {P : Program} {w : World} {ops : Array Oper} {rest : List Oper} {o : Oper} {a : Act} {Q : Exit → Act → World → Prop} (hgd : o.guard = none) (sl x : Operand) (t u : TypeId)
    (ho : o.op = .call { callee := .builtin .append, args := #[sl, x], argTypes := #[t, u] })
    (base : Nat) (e : TypeId) (ht : P.underlying t = some (.slice e)) (hu : P.underlying u = some .string) (hinfo : (P.info? e).map (fun i => (i.zero, i.size, i.bytes)) = some (some (.int .u8 0), 1, 1))
    (v : Value) (n : Nat) (zs : List Nat) (hs : a.eval sl = v) (hown : w.ownsRow base e 1 v n (zs.map byteVal)) (hn : 0 < n) (s : ByteArray) (hx : a.eval x = .string s) (hl : n + s.size ≤ 1000000) (hbase : base ≤ w.heap.size)
    (h : ∀ v' w', w'.ownsRow base e 1 v' (n + s.size) ((zs ++ numsOf s).map byteVal) → w'.ownsRow base e 1 v n (zs.map byteVal) → w.grownBy w' v.ownBlock → wpList P ops Q rest (a.put o.dst v') w') : wpList P ops Q (o :: rest) a w := by
  refine wpList_plain hgd fun K hK => ?_
  obtain ⟨v', w', hr, h2, h3, h4⟩ := run_append_text (P := P) w base t u o.type e ht hu hinfo v n zs hown hn s hl hbase
  unfold Oper.wp execOp
  simp only [ho, resolve, invoke, builtin, Sem.run_bind, Sem.run_pure, Result.andThen_ok, List.map_toArray, List.map_cons, List.map_nil, hs, hx, hr]
  exact hK _ _ (h v' w' h2 h3 h4)
theorem own_new (w : World) (vals : Array Value) (ty : TypeId) (zs : List Nat) (hv : vals.toList = zs.map byteVal) (hl : zs.length ≤ 1000) : (w.alloc (.cells vals ty)).ownsRow w.heap.size ty 1 (.slice (some ⟨w.heap.size, 0, none⟩) zs.length zs.length) zs.length (zs.map byteVal) := by
  have hs : vals.size = zs.length := by rw [← Array.length_toList, hv, List.length_map]
  refine ⟨by rw [List.length_map, Nat.mul_one], .inr ⟨w.heap.size, zs.length, vals, rfl, Nat.le_refl _, heap_alloc_new w _, Nat.le_refl _, by unfold maxLen; omega, by rw [hs, Nat.mul_one], ?_⟩⟩
  rw [Nat.mul_one, hv, ← List.length_map (f := byteVal), List.take_length]
theorem rep_any (s : ByteArray) (c : Nat) (w : World) (hl : s.size * c ≤ 10000) (hc : c ≤ 10000) :
    Calls Try.prog 8 #[.string s, .int .i64 (c : Int)] w fun e w' => ∃ r : ByteArray, e = .returned (.string r) ∧ r.size ≤ 10000 ∧ Hid (Below w.heap.size w w') := by
  refine (Try.strings_Repeat s c w (by omega) (by omega)).mono ?_
  rintro e w' ⟨rfl, h⟩
  refine ⟨_, rfl, ?_, h⟩
  show (Lib.repeatL s.data.toList c).toArray.size ≤ 10000
  rw [List.size_toArray, Lib.repeatL_length, ← Lib.size_eq, Nat.mul_comm]
  exact hl
/-- A row of the call's own, or a constant's bytes, of which no more is written. -/
def RowIs (w : World) (B : Nat) (v : Value) (n : Nat) (zs : List Nat) : Prop :=
  w.ownsRow B 5 1 v n (zs.map byteVal) ∨ (zs.length = n ∧ bytesIn w v zs ∧ ∃ g, v = .slice (some ⟨g, 0, none⟩) n n ∧ B ≤ g)
theorem RowIs.form {w : World} {B : Nat} {v : Value} {n : Nat} {zs : List Nat} (h : RowIs w B v n zs) : ∃ o c, v = .slice o n c := by
  rcases h with h | ⟨_, _, g, h, _⟩
  · exact row_shape h
  · exact ⟨_, _, h⟩
theorem row_const (w : World) (vals : Array Value) (zs : List Nat) (hv : vals.toList = zs.map byteVal) : RowIs (w.alloc (.cells vals 5 (vals.size, vals.size + 1))) w.heap.size (.slice (some ⟨w.heap.size, 0, none⟩) zs.length zs.length) zs.length zs :=
  .inr ⟨rfl, by
    refine .inr ⟨w.heap.size, 0, zs.length, rfl, ?_, Nat.le_refl _, fun j z hj => ?_⟩
    · show _ < (w.heap.push _).size
      simp
    · rw [Nat.zero_add, World.cell?_alloc_mark, ← Array.getElem?_toList, hv, List.getElem?_map, hj]
      rfl, w.heap.size, rfl, Nat.le_refl _⟩
theorem wpList_append_row {w : World} {ops : Array Oper} {rest : List Oper} {o : Oper} {a : Act} {Q : Exit → Act → World → Prop} (hgd : o.guard = none) (s x : Operand)
    (ho : o.op = .call { callee := .builtin .append, args := #[s, x], argTypes := #[25, 25] })
    (B : Nat) (v : Value) (n : Nat) (zs : List Nat) (hs : a.eval s = v) (hrow : RowIs w B v n zs) (g : Nat) (y : Nat) (hx : a.eval x = .slice (some ⟨g, 0, none⟩) 1 1) (hy : w.cell? ⟨g, 0, none⟩ = some (byteVal y))
    (hlen : n + 1 ≤ 1000000) (hB : B ≤ w.heap.size)
    (h : ∀ v' w', w'.ownsRow B 5 1 v' (n + 1) ((zs ++ [y]).map byteVal) → Below B w w' → wpList Try.prog ops Q rest (a.put o.dst v') w') : wpList Try.prog ops Q (o :: rest) a w := by
  rcases hrow with hown | ⟨hl, hb, g0, rfl, hg0⟩
  · exact wpList_append_one (c := byteVal) hgd s x _ ho B 5 (.int .u8 0) Try.underlying25 infoByte rfl (fun _ => rfl) v n zs hs hown g y hx hy (by omega) hB (fun v' w' k1 k2 => h v' w' k1 ((Below.refl _ _).grown k2 hB (fun q hq => (hown.lt q hq).1)))
  · have hinfo := infoByte
    cases hi : Try.prog.info? 5 with
    | none => rw [hi] at hinfo; cases hinfo
    | some i =>
      rw [hi] at hinfo
      simp only [Option.map_some, Option.some.injEq, Prod.mk.injEq] at hinfo
      obtain ⟨hz, hsize, hby⟩ := hinfo
      refine wpList_append_grows (P := Try.prog) w hgd s x _ ho 5 i (.int .u8 0) 1 1 Try.underlying25 hi hz hsize hby rfl (by decide) (some ⟨g0, 0, none⟩) n n (zs.map byteVal) hs (fun h => by cases h) (by rw [List.length_map, hl, Nat.mul_one]) ?_ ⟨g, 0, none⟩ 1 1 [byteVal y] hx rfl ?_ (by simp [byteVal]; rfl) (by omega) (by unfold maxLen; omega) (by omega) ?_
      · intro b eb j u hj
        obtain rfl := Option.some.inj eb
        rw [List.getElem?_map, Option.map_eq_some_iff] at hj
        obtain ⟨z, hz1, rfl⟩ := hj
        obtain ⟨b', off, cap, e1, _, e3⟩ := listed_cell hb j z hz1
        simp only [Value.slice.injEq, Option.some.injEq, Addr.mk.injEq] at e1
        obtain ⟨⟨rfl, rfl, _⟩, _⟩ := e1
        rw [Addr.add_lit]
        exact e3
      · intro j u hj
        match j, hj with
        | 0, hj =>
          obtain rfl := Option.some.inj hj
          exact hy
        | j + 1, hj => simp at hj
      · intro v' w' k1 k2
        exact h v' w' (by rw [List.map_append]; exact ownsRow_le k1 hB) ((Below.refl _ _).grown k2 hB (fun q hq => by cases hq))
theorem own_len {w : World} {base e : Nat} {v : Value} {n : Nat} {zs : List Nat} (h : w.ownsRow base e 1 v n (zs.map byteVal)) : zs.length = n := by simpa using h.1
end Go.Proofs.Ytggkmbnogdikkaa.Fx
