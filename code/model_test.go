package code_test

import (
	"math/rand"
	"slices"
	"strings"
	"testing"

	"offshoot/api"
	"offshoot/check"
	"offshoot/code"
	"offshoot/parse"
	"offshoot/show"
	"offshoot/val"
)

// rows is the chapter's table once more: names of steps, with the instruction's number and what it has: all ids or counts (n), values (v), names (s), traversals (k), a number told here, an edge's or a range's numbers, what is tested (p).
const rows = `
V 1 n | E 2 n | hasId 10 n | tail 18 n | range 17 n | limit 17 0 n | skip 17 n -1
inject 3 v | constant 25 v | add 29 v | mul 30 v
addV 4 s | hasNot 8 s | select 28 s | as 44 s | hasLabel 9 s | values 22 s | has 6 s p | is 11 p | addE 5 s to from
where 12 k | not 13 k | and 14 k | or 15 k | union 38 k | coalesce 39 k | optional 40 k | choose 41 k | local 43 k
dedup 16 by | group 34 by by | groupCount 35 by | order 36 bys | repeat 42 k until times emit
out 20 1 0 s | in 20 2 0 s | both 20 3 0 s | outE 20 1 1 s | inE 20 2 1 s | bothE 20 3 1 s | outV 21 1 | inV 21 2 | bothV 21 3
count 33 1 | sum 33 2 | min 33 3 | max 33 4 | mean 33 5
simplePath 19 | id 23 | label 24 | identity 26 | path 27 | fold 31 | unfold 32 | barrier 37 | drop 46
property 45 key`

// model makes programs of the rows: places come of how many bodies stand within each step, not of a count that goes on.
type model struct {
	rows   map[string][]string
	bodies map[int][]api.Ins
}

func newModel() *model {
	m := &model{rows: map[string][]string{}}
	for _, s := range strings.FieldsFunc(rows, func(r rune) bool { return r == '|' || r == '\n' }) {
		if f := strings.Fields(s); len(f) > 0 {
			m.rows[f[0]] = f[1:]
		}
	}
	return m
}

const guests = " by times until emit to from "

func guest(name string) bool { return name != "" && strings.Contains(guests, " "+name+" ") }

// within is an argument's steps, if it has a body.
func within(step string, a api.Arg) ([]api.Step, bool) {
	if step == "by" && a.Kind == api.ArgValue {
		return []api.Step{{Name: "values", Args: []api.Arg{a}}}, true
	}
	return a.T, a.Kind == api.ArgTrav
}

// size is how many bodies there are of steps: their own, and all within it.
func size(l []api.Step) int {
	n := 1
	for _, s := range l {
		for _, a := range s.Args {
			if inner, ok := within(s.Name, a); ok {
				n += size(inner)
			}
		}
	}
	return n
}

func (m *model) program(l []api.Step) api.Prog {
	m.bodies = map[int][]api.Ins{}
	m.lay(0, l)
	var p api.Prog
	for i := range size(l) {
		p.Bodies = append(p.Bodies, m.bodies[i])
	}
	return p
}

// lay makes the body of a place, and those within it: kids are the places of each step's traversals.
func (m *model) lay(at int, l []api.Step) {
	next := at + 1
	kids := make([][]int, len(l))
	for i, s := range l {
		for _, a := range s.Args {
			if inner, ok := within(s.Name, a); ok {
				kids[i] = append(kids[i], next)
				m.lay(next, inner)
				next += size(inner)
			}
		}
	}
	m.bodies[at] = nil
	for i, s := range l {
		if !guest(s.Name) {
			end := i + 1
			for end < len(l) && guest(l[end].Name) {
				end++
			}
			m.bodies[at] = append(m.bodies[at], m.ins(l[i:end], kids[i:end]))
		}
	}
}

// find is the place of the nth step of a name among those that belong to the first one: 0, if there is none.
func find(l []api.Step, name string, nth int) int {
	for i, s := range l {
		if i > 0 && s.Name == name {
			if nth == 0 {
				return i
			}
			nth--
		}
	}
	return 0
}

// kid is the place of a guest's traversal, -1, if there is none.
func kid(i int, kids [][]int) int {
	if i == 0 || len(kids[i]) == 0 {
		return -1
	}
	return kids[i][0]
}

func (m *model) ins(l []api.Step, kids [][]int) api.Ins {
	row := m.rows[l[0].Name]
	in := api.Ins{Op: int(digits(row[0]))}
	bys := 0
	for _, w := range row[1:] {
		switch w {
		case "n", "v", "s", "key", "p":
			own(&in, w, l[0].Args)
		case "k":
			in.Kids = append(in.Kids, kids[0]...)
		case "to", "from", "until":
			in.Kids = append(in.Kids, kid(find(l, w, 0), kids))
		case "by":
			in.Kids = append(in.Kids, kid(find(l, w, bys), kids))
			bys++
		case "bys":
			keys(&in, l, kids)
		case "times":
			in.N = []int64{-1}
			if i := find(l, w, 0); i > 0 {
				in.N[0] = l[i].Args[0].V.N
			}
		case "emit":
			in.Flag = find(l, w, 0) > 0
		default:
			in.N = append(in.N, digits(w))
		}
	}
	return in
}

// keys are those of an order.
func keys(in *api.Ins, l []api.Step, kids [][]int) {
	for i := 1; i < len(l); i++ {
		down := int64(strings.Count(show.Steps(l[i:i+1])+" ", "desc) "))
		in.Kids, in.N = append(in.Kids, kid(i, kids)), append(in.N, down)
	}
	if len(l) == 1 {
		in.Kids, in.N = []int{-1}, []int64{0}
	}
}

// own is what an instruction has of its step's own arguments.
func own(in *api.Ins, what string, l []api.Arg) {
	for i, a := range l {
		text := a.Kind == api.ArgValue && a.V.Kind == api.Str
		switch {
		case what == "n":
			in.N = append(in.N, a.V.N)
		case what == "v", what == "key" && i == len(l)-1:
			in.V = append(in.V, a.V)
		case what == "key" && a.Kind == api.ArgWord:
			in.Flag = a.V.S == "list"
		case what == "s" && text && (in.Op != api.OpHas || i == 0), what == "key":
			in.S = append(in.S, a.V.S)
		case what == "p" && in.Op == api.OpHas && i == 0:
		case what == "p" && a.Kind == api.ArgValue:
			in.P = api.Pred{Op: "eq", L: []api.Value{a.V}}
		case what == "p":
			in.P = a.P
		}
	}
	if what == "p" && in.Op == api.OpHas && len(l) == 2 {
		in.Op = api.OpHasP
	}
}

func digits(s string) int64 {
	w, _, _ := parse.Parse("g.V(" + s + ")")
	return w[0].Args[0].V.N
}

// hold holds a program against the model, and against what all programs are.
func (m *model) hold(t *testing.T, l []api.Step) api.Errno {
	t.Helper()
	if e := check.Check(l); e != api.OK {
		not(t, e, l...)
		return e
	}
	p, e := code.Compile(l)
	if want := m.program(l); e != api.OK || !alike(p, want) {
		t.Fatalf("%s: %d, %s; must be %s", short(show.Query(l)), e, short(told(p)), short(told(want)))
	}
	named(t, p)
	return api.OK
}

// named asks that each body but the first one is named once, by a body ahead of it.
func named(t *testing.T, p api.Prog) {
	t.Helper()
	times := make([]int, len(p.Bodies))
	for i, b := range p.Bodies {
		for _, in := range b {
			for _, k := range in.Kids {
				if k != -1 && k <= i || k < -1 || k >= len(times) {
					t.Fatalf("%s: a body %d of %d", short(told(p)), k, i)
				}
				if k > 0 {
					times[k]++
				}
			}
		}
	}
	for i, n := range times {
		if i == 0 && n != 0 || i > 0 && n != 1 {
			t.Fatalf("%s: %d names of %d", short(told(p)), n, i)
		}
	}
}

// writer writes steps by chance, all of which may be.
type writer struct {
	*model
	r     *rand.Rand
	names []string // of the steps that belong to no other one
}

func newWriter(m *model, seed int64) *writer {
	w := &writer{model: m, r: rand.New(rand.NewSource(seed))}
	for n := range m.rows {
		w.names = append(w.names, n)
	}
	slices.Sort(w.names)
	return w
}

func (w *writer) pick(l ...string) string { return l[w.r.Intn(len(l))] }

// value writes any value.
func (w *writer) value(deep int) api.Value {
	switch w.r.Intn(6) {
	case 0:
		return val.Text(w.pick("", "a", "list", "desc", "it's"))
	case 1:
		return val.Float(w.r.NormFloat64())
	case 2:
		return val.Yes(w.r.Intn(2) == 0)
	case 3:
		v := val.List()
		for deep > 0 && w.r.Intn(3) > 0 {
			v.L = append(v.L, w.value(deep-1))
		}
		return v
	case 4:
		return val.None()
	}
	return val.Int(int64(w.r.Intn(5)) - 2)
}

func (w *writer) pred(deep int) api.Pred {
	if deep > 0 && w.r.Intn(3) == 0 {
		if w.r.Intn(3) == 0 {
			return api.Pred{Op: "not", Kids: []api.Pred{w.pred(deep - 1)}}
		}
		return api.Pred{Op: w.pick("and", "or"), Kids: []api.Pred{w.pred(deep - 1), w.pred(deep - 1)}}
	}
	p := api.Pred{Op: w.pick("eq", "neq", "lt", "between", "within", "containing")}
	n := w.r.Intn(3)
	if k, _ := parse.Preds(p.Op); k >= 0 {
		n = k
	}
	for range n {
		p.L = append(p.L, w.value(2))
	}
	return p
}

// arg writes an argument of one kind: an id, a count, a name, a value, a predicate, a traversal, or a word.
func (w *writer) arg(kind string, deep int) api.Arg {
	switch kind {
	case "i":
		return number(1 + int64(w.r.Intn(4)))
	case "n":
		return number(int64(w.r.Intn(4)))
	case "s":
		return name(w.pick("a", "b", "list", "desc", "_1"))
	case "v":
		return value(w.value(2))
	case "p":
		return such(w.pred(3))
	case "k":
		return trav(w.chain(deep-1, false)...)
	}
	return word(kind)
}

// args writes arguments that a step may have: nothing, if it may have none here.
func (w *writer) args(step string, deep int) ([]api.Arg, bool) {
	form := map[string]string{
		"V": "*i", "E": "*i", "hasId": "*i", "tail": "n", "range": "n n", "limit": "n", "skip": "n", "times": "n", "inject": "v *v", "constant": "v", "add": "v", "mul": "v",
		"addV": "s", "hasNot": "s", "select": "s", "as": "s", "addE": "s", "hasLabel": "*s", "values": "*s", "out": "*s", "in": "*s", "both": "*s", "outE": "*s", "inE": "*s", "bothE": "*s",
		"has": w.pick("s", "s p", "s v"), "is": w.pick("p", "v"), "property": w.pick("s v", "single s v", "list s v"), "by": w.pick("", "s", "k"),
		"where": "k", "not": "k", "optional": "k", "local": "k", "repeat": "k", "until": "k", "to": "k", "from": "k", "and": "k *k", "or": "k *k", "union": "k *k", "coalesce": "k *k", "choose": "k k k",
	}[step]
	if deep <= 0 && strings.Contains(form, "k") {
		return nil, false
	}
	var l []api.Arg
	for _, f := range strings.Fields(form) {
		n := 1
		if f[0] == '*' {
			n = w.r.Intn(3)
		}
		for range n {
			l = append(l, w.arg(strings.TrimPrefix(f, "*"), deep))
		}
	}
	return l, true
}

func (w *writer) chain(deep int, text bool) []api.Step {
	var l []api.Step
	for n := 1 + w.r.Intn(4); len(l) < n; {
		name := w.pick(w.names...)
		if text && len(l) == 0 {
			name = w.pick("V", "E", "addV", "inject")
		}
		if name == "addE" && deep <= 0 {
			continue
		}
		if a, ok := w.args(name, deep); ok {
			l = w.behind(append(l, step(name, a...)), name, deep)
		}
	}
	return l
}

// behind writes what belongs to a host.
func (w *writer) behind(l []api.Step, host string, deep int) []api.Step {
	some := map[string][]string{
		"order": {"", "by", "by by by", "by by by by by by by by by by by by"}, "group": {"", "by", "by by"}, "groupCount": {"", "by"}, "dedup": {"", "by"},
		"repeat": {"times", "until", "emit", "emit times", "until emit times", "times emit until", "until times"}, "addE": {"to", "from", "to from", "from to"},
	}[host]
	if some == nil {
		return l
	}
	for _, name := range strings.Fields(w.pick(some...)) {
		a, ok := w.args(name, deep)
		if !ok && name != "by" {
			panic(name)
		}
		if host == "order" && w.r.Intn(2) == 0 {
			a = append(a, word(w.pick("asc", "desc")))
		}
		l = append(l, step(name, a...))
	}
	return l
}

// TestChance: steps by chance, and with one of them gone, or told twice.
func TestChance(t *testing.T) {
	m := newModel()
	if len(m.rows) != 58 {
		t.Fatalf("%d rows; must be 58", len(m.rows))
	}
	bodies, count := 0, map[api.Errno]int{}
	for seed := range int64(20000) {
		w := newWriter(m, seed)
		l := w.chain(4, true)
		if e := m.hold(t, l); e != api.OK {
			t.Fatalf("%s: %d, but it may be", show.Query(l), e)
		}
		bodies += size(l)
		i := w.r.Intn(len(l))
		count[m.hold(t, slices.Delete(slices.Clone(l), i, i+1))]++
		count[m.hold(t, slices.Insert(slices.Clone(l), i, l[i]))]++
	}
	t.Log(bodies, "bodies,", count)
}

// TestTexts: what is parsed comes to the same as what is told again.
func TestTexts(t *testing.T) {
	m := newModel()
	n := 0
	for seed := range int64(3000) {
		l := newWriter(m, seed).chain(3, true)
		again, _, e := parse.Parse(show.Query(l))
		if e != api.OK {
			continue
		}
		n++
		p, e := code.Compile(again)
		if e != api.OK || !alike(p, m.program(l)) {
			t.Fatalf("%s: %d, %s", show.Query(l), e, told(p))
		}
		if len(p.Bodies) > api.MostSteps+1 {
			t.Errorf("%d bodies", len(p.Bodies))
		}
	}
	if n < 1000 {
		t.Errorf("%d texts", n)
	}
}
