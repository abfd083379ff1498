/-
  A MAP BY SOUND STRINGS, as it lies in memory: what is looked up in it, and how it is written.
-/
import Derived.Test.YtbodmgilcohfjaaCan
import Derived.Maps.RangeRun
import Derived.MapKept
import Derived.RangeFuncBox
namespace Go.Proofs.Ytbodmgilcohfjaa
set_option linter.unusedVariables false
set_option linter.unusedSimpArgs false
open Go.RowKit
open Go.ChangeMaps (setBlock)

theorem ssV_inj {l m : List Int} (hl : l.length ≤ 5) (hm : m.length ≤ 5) (h : ssV l = ssV m) : l = m := by
  unfold ssV ssRaw at h
  simp only [Value.agg.injEq, Array.mk.injEq, List.cons.injEq, Value.int.injEq, true_and, and_true] at h
  obtain ⟨h0, h1, h2, h3, h4, h5⟩ := h
  have hlen : l.length = m.length := by omega
  refine List.ext_getElem hlen fun i hi hi' => ?_
  have e : ∀ (l : List Int) (j : Nat) (hj : j < l.length), l.getD j 0 = l[j] := fun l j hj => by simp [List.getD_eq_getElem?_getD, hj]
  have h5 : i = 0 ∨ i = 1 ∨ i = 2 ∨ i = 3 ∨ i = 4 := by omega
  rcases h5 with rfl | rfl | rfl | rfl | rfl
  · rw [← e l _ hi, ← e m _ hi']; assumption
  · rw [← e l _ hi, ← e m _ hi']; assumption
  · rw [← e l _ hi, ← e m _ hi']; assumption
  · rw [← e l _ hi, ← e m _ hi']; assumption
  · rw [← e l _ hi, ← e m _ hi']; assumption

def entries (M : Tally) : List (Value × Value) := M.map fun p => (ssV p.1, .int .i64 (p.2 : Nat))
structure EntriesAre (es : Array MapEntry) (M : Tally) : Prop where
  pairs : es.toList.map (fun e => (e.key, e.val)) = entries M
  born : es.toList.map (·.born) = List.range M.length
theorem EntriesAre.size {es : Array MapEntry} {M : Tally} (h : EntriesAre es M) : es.size = M.length := by
  have := congrArg List.length h.pairs
  simpa [entries] using this
/-- the map in block B is this one -/
def MapIs (w : World) (B : Nat) (M : Tally) : Prop := ∃ es, w.heap[B]? = some (.map es M.length) ∧ EntriesAre es M
theorem MapIs.nil (w : World) : MapIs (w.alloc (.map #[] 0)) w.heap.size [] := ⟨#[], World.alloc_heap_new w _, ⟨rfl, rfl⟩⟩
theorem MapIs.lt {w : World} {B : Nat} {M : Tally} (h : MapIs w B M) : B < w.heap.size := by
  obtain ⟨es, hb, -⟩ := h; exact (Array.getElem?_eq_some_iff.1 hb).1
theorem MapIs.kept {w w' : World} {B : Nat} {M : Tally} (h : MapIs w B M) (e : w'.heap[B]? = w.heap[B]?) : MapIs w' B M := by
  obtain ⟨es, hb, h1⟩ := h; exact ⟨es, e.trans hb, h1⟩

/-- where a string stands, and what with -/
def findT (k : List Int) : Tally → Nat → Option (Nat × Nat)
  | [], _ => none
  | p :: M, i => if p.1 = k then some (i, p.2) else findT k M (i + 1)
theorem findT_get (k : List Int) : ∀ (M : Tally) (i : Nat), (findT k M i).map (·.2) = getT k M
  | [], _ => rfl
  | p :: M, i => by
    simp only [findT, getT]
    split
    · rfl
    · exact findT_get k M (i + 1)
theorem findT_put (k : List Int) (v : Nat) : ∀ (M : Tally) (i j : Nat) (u : Nat), findT k M i = some (j, u) → i ≤ j ∧ ∃ hj : j - i < M.length, (M[j - i]).1 = k ∧ putT k v M = M.set (j - i) (k, v)
  | p :: M, i, j, u, h => by
    simp only [findT] at h
    split at h
    · rename_i hp
      cases h
      exact ⟨Nat.le_refl _, by simp, by simpa using hp, by simp [putT, hp]⟩
    · rename_i hp
      obtain ⟨h1, h2, h3, h4⟩ := findT_put k v M (i + 1) j u h
      have e : j - i = (j - (i + 1)) + 1 := by omega
      refine ⟨by omega, by simp; omega, ?_, ?_⟩
      · simp only [e, List.getElem_cons_succ]; exact h3
      · simp only [e, List.set_cons_succ, putT, if_neg hp, h4]
theorem findT_none (k : List Int) (v : Nat) : ∀ (M : Tally) (i : Nat), findT k M i = none → putT k v M = M ++ [(k, v)]
  | [], _, _ => rfl
  | p :: M, i, h => by
    simp only [findT] at h
    split at h
    · cases h
    · rename_i hp
      simp only [putT, if_neg hp, List.cons_append, findT_none k v M (i + 1) h]

theorem equal_sound (l m : List Int) (hl : l.length ≤ 5) (hm : m.length ≤ 5) (w : World) : (Op.equal 100 (ssV l) (ssV m)).run Try.prog w = .ok (decide (l = m)) w := by
  have hop : ∀ x y : Value, Op.equal 100 x y = Op.equalIn Op.maxDepth 100 x y := fun _ _ => rfl
  obtain ⟨m0, hd⟩ : ∃ m0, Op.maxDepth = m0 + 3 := ⟨9997, by decide⟩
  rw [hop, hd]
  rw [show ssV l = ssRaw l.length (l.getD 0 0) (l.getD 1 0) (l.getD 2 0) (l.getD 3 0) (l.getD 4 0) from rfl, show ssV m = ssRaw m.length (m.getD 0 0) (m.getD 1 0) (m.getD 2 0) (m.getD 3 0) (m.getD 4 0) from rfl]
  rw [eq_sound]
  congr 1
  by_cases e : l = m
  · subst e; simp
  · rw [decide_eq_false e]
    by_cases hq : ssV l = ssV m
    · exact absurd (ssV_inj hl hm hq) e
    · simp only [Bool.and_eq_false_iff, beq_eq_false_iff_ne]
      by_cases h0 : (l.length : Int) = m.length
      · refine .inr ?_
        by_cases h1 : l.getD 0 0 = m.getD 0 0
        · refine .inr ?_
          by_cases h2 : l.getD 1 0 = m.getD 1 0
          · refine .inr ?_
            by_cases h3 : l.getD 2 0 = m.getD 2 0
            · refine .inr ?_
              by_cases h4 : l.getD 3 0 = m.getD 3 0
              · refine .inr fun h5 => hq ?_
                unfold ssV; rw [h0, h1, h2, h3, h4, h5]
              · exact .inl h4
            · exact .inl h3
          · exact .inl h2
        · exact .inl h1
      · exact .inl h0
theorem run_findAsking_ss (k : List Int) (hk : k.length ≤ 5) (w : World) : ∀ (es : List MapEntry) (M : Tally) (i : Nat), es.map (fun e => (e.key, e.val)) = entries M → (∀ p ∈ M, p.1.length ≤ 5) →
    (Instr.findAsking 100 (ssV k) es i).run Try.prog w = .ok ((findT k M i).map fun q => (q.1, .int .i64 (q.2 : Nat))) w
  | [], M, i, h, _ => by
    cases M with
    | nil => simp [Instr.findAsking, findT]
    | cons p M => simp [entries] at h
  | e :: es, M, i, h, hM => by
    cases M with
    | nil => simp [entries] at h
    | cons p M =>
      simp only [entries, List.map_cons, List.cons.injEq, Prod.mk.injEq] at h
      obtain ⟨⟨h1, h2⟩, h3⟩ := h
      have ih := run_findAsking_ss k hk w es M (i + 1) h3 fun q hq => hM q (List.mem_cons_of_mem _ hq)
      unfold Instr.findAsking
      simp only [Sem.run_bind, h1, equal_sound k p.1 hk (hM p List.mem_cons_self), Result.andThen, findT]
      by_cases hp : p.1 = k
      · rw [if_pos hp, decide_eq_true hp.symm]
        simp [h2, Sem.run]
      · rw [if_neg hp, decide_eq_false (fun x => hp x.symm)]
        simpa using ih
theorem run_findKey_ss (k : List Int) (hk : k.length ≤ 5) (w : World) (es : List MapEntry) (M : Tally) (h : es.map (fun e => (e.key, e.val)) = entries M) (hM : ∀ p ∈ M, p.1.length ≤ 5) :
    (Instr.findKey 100 (ssV k) es).run Try.prog w = .ok ((findT k M 0).map fun q => (q.1, .int .i64 (q.2 : Nat))) w := by
  have hask := run_findAsking_ss k hk w es M 0 h hM
  have hu : ∃ fs, Try.prog.underlying 100 = some (.struct fs) := ⟨_, Try.underlying100⟩
  obtain ⟨fs, hu⟩ := hu
  unfold Instr.findKey
  simp only [Sem.run_bind, run_underlying hu, Result.andThen]
  cases es with
  | nil =>
    cases M with
    | nil => simp [Instr.findNow, findT, Sem.run]
    | cons p M => simp [entries] at h
  | cons e es => simpa [Instr.findNow, Instr.sameNow] using hask
theorem run_check_raw (n a b c d e : Int) (em : Bool) (w : World) : (Instr.checkKey em 10000 100 (.agg #[.int .i64 n, .int .i64 a, .int .i64 b, .int .i64 c, .int .i64 d, .int .i64 e])).run Try.prog w = .ok () w := by
  have hb : ∀ w, (isAgg 98).run Try.prog w = .ok true w := fun _ => by kernel_rfl
  have ha : ∀ w, (isAgg 3).run Try.prog w = .ok false w := fun _ => by kernel_rfl
  have hs : ∀ w, (sizeOf 98).run Try.prog w = .ok 5 w := fun _ => by kernel_rfl
  have hs1 : ∀ w, (sizeOf 3).run Try.prog w = .ok 1 w := fun _ => by kernel_rfl
  have hi : Try.prog.underlying 3 = some (.int .i64) := Try.underlying3
  have h5 : Try.prog.underlying 98 = some (.array 5 3) := Try.underlying98
  have hint : ∀ (m : Nat) (x : Int) (w : World), (Instr.checkKey em (m + 1) 3 (.int .i64 x)).run Try.prog w = .ok () w := fun m x w => by
    simp [Instr.checkKey, run_underlying hi]
  have harr : ∀ (m : Nat) (w : World), (Instr.checkKey em (m + 2) 98 (.agg #[.int .i64 a, .int .i64 b, .int .i64 c, .int .i64 d, .int .i64 e])).run Try.prog w = .ok () w := fun m w => by
    rw [Instr.checkKey]
    simp [run_underlying h5, Result.andThen, List.range', hint, hs1, ha, part, go_sem]
  obtain ⟨fs, hu⟩ : ∃ fs, Try.prog.underlying 100 = some (.struct fs) := ⟨_, Try.underlying100⟩
  have hf : ((Try.prog.fieldsOf 100).toList.map fun f => (f.name, f.type, f.offset)) = [("long", 3, 0), ("sounds", 98, 1)] := by kernel_rfl
  have hfs : Try.prog.fieldsOf 100 = fs := by simp [Program.fieldsOf, hu]
  rw [hfs] at hf
  obtain ⟨fl⟩ := fs
  obtain ⟨f, g, rfl⟩ : ∃ f g, fl = [f, g] := by
    rcases fl with _ | ⟨f, _ | ⟨g, _ | ⟨h, r⟩⟩⟩
    · simp at hf
    · simp at hf
    · exact ⟨f, g, rfl⟩
    · simp at hf
  simp only [List.map_cons, List.map_nil, List.cons.injEq, Prod.mk.injEq, and_true] at hf
  obtain ⟨⟨h1, h2, h3⟩, h4, h5', h6⟩ := hf
  rw [Instr.checkKey]
  have hint' := hint 9998
  have harr' := harr 9997
  simp [run_underlying hu, Result.andThen, h1, h2, h3, h4, h5', h6, part, ha, hb, hs, go_sem, hint', harr']
theorem run_check_ss (k : List Int) (em : Bool) (w : World) : (Instr.checkKey em 10000 100 (ssV k)).run Try.prog w = .ok () w := run_check_raw _ _ _ _ _ _ em w
theorem run_stays_ss (k : List Int) (w : World) : (Instr.keyThatStays (ssV k) (ssV k)).run Try.prog w = .ok (ssV k) w := by
  have : Instr.sameBits 10000 (ssV k) (ssV k) = true := by
    unfold ssV ssRaw
    simp [Instr.sameBits]
  simp [Instr.keyThatStays, this, Sem.run]

/-- WHAT IS LOOKED UP -/
theorem run_lookup_ss {w : World} {B : Nat} {M : Tally} (k : List Int) (hk : k.length ≤ 5) (hM : ∀ p ∈ M, p.1.length ≤ 5) (h : MapIs w B M) (ok : Bool) :
    (Instr.lookup 89 (.map (some B)) (ssV k) ok).run Try.prog w = .ok (if ok then .tuple #[.int .i64 ((getT k M).getD 0 : Nat), .bool (getT k M).isSome] else .int .i64 ((getT k M).getD 0 : Nat)) w := by
  obtain ⟨es, hb, hE⟩ := h
  have hu : Try.prog.underlying 89 = some (.map 100 3) := Try.underlying89
  have hz : (zeroValue 3).run Try.prog w = .ok (.int .i64 0) w := Try.zeroValue3 w
  have hf := run_findKey_ss k hk w es.toList M hE.pairs hM
  have hg := findT_get k M 0
  unfold Instr.lookup
  simp only [Sem.run_bind, run_underlying hu, MapKept.run_getObj_map hb, run_check_ss, hf, Result.andThen, Sem.run_pure]
  cases hq : findT k M 0 with
  | none =>
    rw [hq] at hg
    cases ok <;> simp [hz, ← hg, Sem.run, Result.andThen]
  | some q =>
    rw [hq] at hg
    cases ok <;> simp [← hg, Sem.run, Result.andThen]
/-- the entry of a string, made where there is none -/
def entM (k : List Int) (M : Tally) : Tally := match findT k M 0 with
  | some _ => M
  | none => M ++ [(k, 0)]
def entE (k : List Int) (M : Tally) (es : Array MapEntry) : Array MapEntry := match findT k M 0 with
  | some _ => es
  | none => es.push { key := ssV k, val := .int .i64 0, born := M.length }
def posT (k : List Int) (M : Tally) : Nat := match findT k M 0 with
  | some (j, _) => j
  | none => M.length
def stoE (k : List Int) (M : Tally) (v : Nat) (es : Array MapEntry) : Array MapEntry := (entE k M es).modify (posT k M) fun e => { e with val := .int .i64 (v : Nat) }
theorem findT_at (k : List Int) (M : Tally) (j u : Nat) (h : findT k M 0 = some (j, u)) : ∃ hj : j < M.length, M[j] = (k, u) := by
  have key : ∀ (M : Tally) (i : Nat), findT k M i = some (j, u) → i ≤ j ∧ ∃ hj : j - i < M.length, M[j - i] = (k, u) := by
    intro M
    induction M with
    | nil => intro i h; simp [findT] at h
    | cons p M ih =>
      intro i h
      simp only [findT] at h
      split at h
      · rename_i hp
        cases h
        refine ⟨Nat.le_refl _, by simp, ?_⟩
        simp only [Nat.sub_self, List.getElem_cons_zero, ← hp]
      · obtain ⟨h1, h2, h3⟩ := ih (i + 1) h
        have e : j - i = (j - (i + 1)) + 1 := by omega
        refine ⟨by omega, by simp; omega, ?_⟩
        simp only [e, List.getElem_cons_succ]; exact h3
  obtain ⟨-, h2, h3⟩ := key M 0 h
  exact ⟨by simpa using h2, by simpa using h3⟩
theorem EntriesAre.at {es : Array MapEntry} {M : Tally} (h : EntriesAre es M) (j : Nat) (hj : j < M.length) : ∃ hj' : j < es.size, es[j] = { key := ssV (M[j]).1, val := .int .i64 ((M[j]).2 : Nat), born := j } := by
  have hj' : j < es.size := by rw [h.size]; exact hj
  refine ⟨hj', ?_⟩
  have h1 := congrArg (fun l => l[j]?) h.pairs
  have h2 := congrArg (fun l => l[j]?) h.born
  simp only [List.getElem?_map, entries, List.getElem?_eq_getElem hj, List.getElem?_range hj, Option.map_some] at h1 h2
  rw [Array.getElem?_toList, Array.getElem?_eq_getElem hj'] at h1 h2
  simp only [Option.map_some, Option.some.injEq, Prod.mk.injEq] at h1 h2
  cases he : es[j] with
  | mk a b c => rw [he] at h1 h2; simp at h1 h2; simp [h1, h2]
theorem entM_len (k : List Int) (M : Tally) : (entM k M).length = if (findT k M 0).isSome then M.length else M.length + 1 := by
  unfold entM
  cases findT k M 0 <;> simp
theorem EntriesAre.ent {es : Array MapEntry} {M : Tally} (h : EntriesAre es M) (k : List Int) : EntriesAre (entE k M es) (entM k M) := by
  unfold entE entM
  cases findT k M 0 with
  | some q => exact h
  | none => exact ⟨by simp [h.pairs, entries], by simp [h.born, List.range_succ]⟩
theorem posT_lt (k : List Int) (M : Tally) : posT k M < (entM k M).length := by
  unfold posT entM
  cases hq : findT k M 0 with
  | none => simp
  | some q => obtain ⟨j, u⟩ := q; obtain ⟨hj, -⟩ := findT_at k M j u hq; exact hj
theorem entM_at (k : List Int) (M : Tally) (h : posT k M < (entM k M).length) : (entM k M)[posT k M] = (k, (getT k M).getD 0) := by
  have hg := findT_get k M 0
  revert h
  unfold posT entM
  cases hq : findT k M 0 with
  | none => intro h; rw [hq] at hg; simp [← hg]
  | some q =>
    obtain ⟨j, u⟩ := q
    intro h
    obtain ⟨hj, e⟩ := findT_at k M j u hq
    rw [hq] at hg
    simp only [← hg, Option.map_some, Option.getD_some]
    exact e
theorem putT_entM (k : List Int) (v : Nat) (M : Tally) : putT k v M = (entM k M).set (posT k M) (k, v) := by
  unfold posT entM
  cases hq : findT k M 0 with
  | none => rw [findT_none k v M 0 hq]; simp
  | some q => obtain ⟨j, u⟩ := q; obtain ⟨-, -, -, e⟩ := findT_put k v M 0 j u hq; simpa using e
theorem EntriesAre.sto {es : Array MapEntry} {M : Tally} (h : EntriesAre es M) (k : List Int) (v : Nat) : EntriesAre (stoE k M v es) (putT k v M) := by
  have h1 := h.ent k
  have hp := posT_lt k M
  obtain ⟨hj, hat⟩ := h1.at _ hp
  rw [entM_at k M hp] at hat
  rw [putT_entM]
  unfold stoE
  generalize entE k M es = fs at *
  generalize posT k M = j at *
  generalize entM k M = L at *
  refine ⟨?_, ?_⟩
  · refine List.ext_getElem? fun i => ?_
    have hi := congrArg (fun l => l[i]?) h1.pairs
    simp only [entries, List.getElem?_map, Array.getElem?_toList, Array.getElem?_modify, List.getElem?_set] at hi ⊢
    by_cases e : j = i
    · subst e
      simp only [if_true, hp, Array.getElem?_eq_getElem hj, hat, Option.map_some]
    · simp only [if_neg e]
      exact hi
  · rw [List.length_set, ← h1.born]
    refine List.ext_getElem? fun i => ?_
    simp only [List.getElem?_map, Array.getElem?_toList, Array.getElem?_modify]
    by_cases e : j = i
    · subst e; simp [Array.getElem?_eq_getElem hj]
    · simp only [if_neg e]
theorem entM_twice (k : List Int) (M : Tally) : (findT k (entM k M) 0).isSome = true ∧ posT k (entM k M) = posT k M ∧ getT k (entM k M) = some ((getT k M).getD 0) := by
  have hg := findT_get k M 0
  have app : ∀ (M : Tally) (i : Nat), findT k M i = none → findT k (M ++ [(k, 0)]) i = some (i + M.length, 0) := by
    intro M
    induction M with
    | nil => intro i _; simp [findT]
    | cons p M ih =>
      intro i h
      simp only [findT] at h
      split at h
      · cases h
      · rename_i hp
        simp only [List.cons_append, findT, if_neg hp, ih (i + 1) h, List.length_cons]
        congr 2; omega
  unfold posT
  cases hq : findT k M 0 with
  | none =>
    rw [hq] at hg
    have e : entM k M = M ++ [(k, 0)] := by unfold entM; rw [hq]
    have ha := app M 0 hq
    have hg2 := findT_get k (M ++ [(k, 0)]) 0
    rw [ha] at hg2
    rw [e, ha]
    refine ⟨rfl, by simp, ?_⟩
    rw [← hg2, ← hg]; rfl
  | some q =>
    rw [hq] at hg
    have e : entM k M = M := by unfold entM; rw [hq]
    rw [e, hq]
    exact ⟨rfl, rfl, by rw [← hg]; rfl⟩
theorem find_born (es : Array MapEntry) (M : Tally) (h : EntriesAre es M) (j : Nat) (hj : j < M.length) : es.findIdx? (fun e => (e.born : Int) == (j : Int)) = some j := by
  rw [Array.findIdx?_eq_some_iff_getElem]
  obtain ⟨hj', hat⟩ := h.at j hj
  refine ⟨hj', by simp [hat], fun i hi => ?_⟩
  obtain ⟨hi', hat'⟩ := h.at i (by omega)
  simp only [hat', beq_iff_eq, Int.natCast_inj]
  omega
/-- THE ENTRY IS TAKEN, or made -/
theorem run_entry_ss {w : World} {B : Nat} {M : Tally} {es : Array MapEntry} (k : List Int) (hk : k.length ≤ 5) (hM : ∀ p ∈ M, p.1.length ≤ 5) (hb : w.heap[B]? = some (.map es M.length)) (hE : EntriesAre es M) :
    (Instr.mapEntry 89 (.map (some B)) (ssV k)).run Try.prog w = .ok (.tuple #[.int .i64 ((getT k M).getD 0 : Nat), .int .i64 (posT k M : Nat)]) (setBlock w B (.map (entE k M es) (entM k M).length)) := by
  have hu : Try.prog.underlying 89 = some (.map 100 3) := Try.underlying89
  have hz : (zeroValue 3).run Try.prog w = .ok (.int .i64 0) w := Try.zeroValue3 w
  have hf := run_findKey_ss k hk w es.toList M hE.pairs hM
  have hg := findT_get k M 0
  unfold Instr.mapEntry
  simp only [Sem.run_bind, run_underlying hu, MapKept.run_getObj_map hb, run_check_ss, hf, Result.andThen]
  cases hq : findT k M 0 with
  | none =>
    rw [hq] at hg
    simp [hz, Result.andThen, MapKept.run_setObj_map _ hb, entE, entM, posT, hq, ← hg, setBlock, goInt]
  | some q =>
    obtain ⟨j, u⟩ := q
    rw [hq] at hg
    obtain ⟨hj, e⟩ := findT_at k M j u hq
    obtain ⟨hj', hat⟩ := hE.at j hj
    rw [e] at hat
    have hmod : (es.modify j fun e => { e with key := ssV k }) = es := by
      refine Array.ext' ?_
      refine List.ext_getElem? fun i => ?_
      simp only [Array.getElem?_toList, Array.getElem?_modify]
      by_cases e : j = i
      · subst e; simp [Array.getElem?_eq_getElem hj', hat]
      · simp [if_neg e]
    simp [run_stays_ss, Array.getElem?_eq_getElem hj', hat, Result.andThen, MapKept.run_setObj_map _ hb, hmod, entE, entM, posT, hq, ← hg, setBlock, goInt]
theorem run_store_ss {w : World} {B : Nat} {M : Tally} {es : Array MapEntry} (k : List Int) (v : Nat) (hb : w.heap[B]? = some (.map (entE k M es) (entM k M).length)) (hE : EntriesAre es M) :
    (Instr.entryStore 89 (.map (some B)) (.int .i64 (posT k M : Nat)) (.int .i64 (v : Nat))).run Try.prog w = .ok () (setBlock w B (.map (stoE k M v es) (putT k v M).length)) := by
  have hfi := find_born _ _ (hE.ent k) _ (posT_lt k M)
  have hl : (putT k v M).length = (entM k M).length := by rw [putT_entM, List.length_set]
  unfold Instr.entryStore
  simp [MapKept.run_getObj_map hb, Result.andThen, asInt, asIntOf, hfi, MapKept.run_setObj_map _ hb, setBlock, hl, stoE]
end Go.Proofs.Ytbodmgilcohfjaa
