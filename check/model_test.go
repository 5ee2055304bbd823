package check_test

import (
	"math/rand"
	"regexp"
	"slices"
	"strings"
	"testing"

	"offshoot/api"
	"offshoot/check"
	"offshoot/graph"
	"offshoot/show"
)

// model is the chapter once more: all faults of all steps are looked for, and the first one is taken. Rows of names are held against expressions.
type model struct {
	takes map[string]*regexp.Regexp
	rows  *regexp.Regexp
}

// groups are the hosts with all rows of what may belong to them.
const groups = `^(order( by){0,12}|group( by){0,2}|(groupCount|dedup)( by)?|` +
	`repeat( times)?( until)?( emit)?|repeat( times)?( emit)?( until)?|repeat( until)?( times)?( emit)?|repeat( until)?( emit)?( times)?|repeat( emit)?( times)?( until)?|repeat( emit)?( until)?( times)?|` +
	`addE( to)?( from)?|addE( from)?( to)?)$`

func newModel() *model { return &model{table(), regexp.MustCompile(groups)} }

const guests = " by times until emit to from "

func guest(name string) bool { return name != "" && strings.Contains(guests, " "+name+" ") }

// spot is a step of a chain.
type spot struct {
	l    []api.Step
	i    int
	text bool
}

// spots are all steps in the text's order.
func spots(l []api.Step, text bool) []spot {
	var out []spot
	for i, s := range l {
		out = append(out, spot{l, i, text})
		for _, a := range s.Args {
			if a.Kind == api.ArgTrav {
				out = append(out, spots(a.T, false)...)
			}
		}
	}
	return out
}

func (m *model) asked(l []api.Step) api.Errno {
	for _, p := range spots(l, true) {
		for _, e := range m.faults(p) {
			if e != api.OK {
				return e
			}
		}
	}
	if len(l) == 0 {
		return api.ErrPlace
	}
	return api.OK
}

func when(is bool, e api.Errno) api.Errno {
	if is {
		return e
	}
	return api.OK
}

// faults are a step's own ones, in the order in which they are named.
func (m *model) faults(p spot) []api.Errno {
	s, row := p.l[p.i], group(p)
	host, next := strings.Fields(row + " -")[0], ""
	if p.i+1 < len(p.l) {
		next = p.l[p.i+1].Name
	}
	is := m.takes[s.Name]
	n := len(s.Args)
	return []api.Errno{
		when(is == nil, api.ErrStep),
		when(is != nil && !is.MatchString(lettersOf(s.Args)), api.ErrArgs),
		when(p.text && p.i == 0 && !slices.Contains([]string{"V", "E", "addV", "inject"}, s.Name), api.ErrPlace),
		when(guest(s.Name) && !m.rows.MatchString(row), api.ErrPlace),
		when(s.Name == "by" && host != "order" && n > 0 && s.Args[n-1].Kind == api.ArgWord, api.ErrArgs),
		when(s.Name == "addE" && next != "to" && next != "from" || s.Name == "repeat" && !guest(next), api.ErrPlace),
	}
}

// group is the names of the steps from a host to the step.
func group(p spot) string {
	row := p.l[p.i].Name
	for i := p.i; i > 0 && guest(p.l[i].Name); i-- {
		row = p.l[i-1].Name + " " + row
	}
	return row
}

// lettersOf tells arguments by letters of those that are alike to the table.
func lettersOf(l []api.Arg) string {
	var b strings.Builder
	for _, a := range l {
		b.WriteString(letterOf(a))
	}
	return b.String()
}

func letterOf(a api.Arg) string {
	words := map[string]string{"asc": "A", "desc": "D", "single": "S", "list": "L"}
	switch {
	case a.Kind == api.ArgTrav:
		return "t"
	case a.Kind == api.ArgPred:
		return "p"
	case a.Kind == api.ArgWord:
		return (words[a.V.S] + "w")[:1]
	case a.Kind != api.ArgValue:
		return "o"
	case a.V.Kind == api.Str && graph.Name(a.V.S):
		return "n"
	case a.V.Kind != api.Int:
		return "x"
	case a.V.N > 0:
		return "1"
	case a.V.N == 0:
		return "0"
	}
	return "-"
}

func checkOf(l ...api.Step) api.Errno { return check.Check(l) }

func told(l []api.Step) string { return show.Query(l) }

func (m *model) hold(t *testing.T, l []api.Step) api.Errno {
	t.Helper()
	want := m.asked(l)
	if e := check.Check(l); e != want {
		t.Fatalf("%s: %d; must be %d", short(told(l)), e, want)
	}
	return want
}

// goOn tries all of some steps behind others, and so on, so far, but not behind what may not be whatever comes next.
func (m *model) goOn(t *testing.T, l, some []api.Step, far int) int {
	e := m.hold(t, l)
	m.hold(t, []api.Step{step("V"), step("where", trav(l...))})
	m.hold(t, []api.Step{step("V"), step("repeat", trav(l...)), step("emit"), step("x")})
	if far == 0 || e == api.ErrStep || e == api.ErrArgs {
		return 1
	}
	n := 1
	for _, s := range some {
		n += m.goOn(t, append(slices.Clip(l), s), some, far-1)
	}
	return n
}

// TestAllRows: all rows of steps that belong to others, and of those that they belong to, behind some beginnings.
func TestAllRows(t *testing.T) {
	m := newModel()
	one := trav(step("id"))
	some := []api.Step{
		step("V"), step("out"), step("order"), step("group"), step("groupCount"), step("dedup"), step("repeat", one), step("addE", arg('n')),
		step("by"), step("by", arg('n')), step("by", arg('D')), step("times", arg('1')), step("until", one), step("emit"), step("to", one), step("from", one),
		step("x"), step("out", arg('1')), step("emit", arg('1')), step("where", trav(step("by"))),
	}
	n := 0
	for _, s := range []string{"", "V()", "V().order()" + times(10, ".by()"), "V().group().by()", "V().repeat(id()).emit()", "V().repeat(id()).until(id()).times(1)", "V().addE('a').from(id())"} {
		var l []api.Step
		if s != "" {
			l = steps(t, "g."+s)
		}
		n += m.goOn(t, l, some, 3)
	}
	t.Log(n, "rows")
}

// writer writes steps by chance, all of which may be, but for those that it is told to spoil.
type writer struct {
	*model
	r     *rand.Rand
	names []string // of the steps that belong to no other one
}

func newWriter(m *model, seed int64) *writer {
	w := &writer{model: m, r: rand.New(rand.NewSource(seed))}
	for n := range m.takes {
		if !guest(n) {
			w.names = append(w.names, n)
		}
	}
	slices.Sort(w.names)
	return w
}

func (w *writer) pick(l ...string) string { return l[w.r.Intn(len(l))] }

// args writes arguments that a step may have.
func (w *writer) args(name string, deep int) []api.Arg {
	s := "o" // which no step has
	for !w.takes[name].MatchString(s) {
		s = w.pick("", "1", "n", "t", "p", "0", "tt", "ttt", "11", "10", "nn", "n1", "np", "Sn1", "Lnn", "A", "D", "nA", "tD", "b", "111", "nnn", "tttt")
	}
	l := args(s)
	for i := range l {
		if s[i] == 't' && deep > 0 {
			l[i] = trav(w.chain(deep-1, false)...)
		}
	}
	return l
}

func (w *writer) chain(deep int, text bool) []api.Step {
	var l []api.Step
	for range 1 + w.r.Intn(5) {
		name := w.pick(w.names...)
		if text && len(l) == 0 {
			name = w.pick("V", "E", "addV", "inject")
		}
		l = append(l, step(name, w.args(name, deep)...))
		l = w.behind(l, name, deep)
	}
	return l
}

// behind writes what belongs to a host.
func (w *writer) behind(l []api.Step, host string, deep int) []api.Step {
	some := map[string][]string{
		"order": {"", "by", "by by by", "by by by by by by by by by by by by"}, "group": {"", "by", "by by"}, "groupCount": {"", "by"}, "dedup": {"", "by"},
		"repeat": {"times", "until", "emit", "emit times", "until emit times"}, "addE": {"to", "from", "to from", "from to"},
	}[host]
	if some == nil {
		return l
	}
	for _, name := range strings.Fields(w.pick(some...)) {
		a := w.args(name, deep)
		for host != "order" && len(a) > 0 && a[len(a)-1].Kind == api.ArgWord {
			a = w.args(name, deep)
		}
		l = append(l, step(name, a...))
	}
	return l
}

// spoil makes another one of one of the steps, of its arguments, or of its place.
func (w *writer) spoil(l []api.Step) {
	all := spots(l, true)
	p := all[w.r.Intn(len(all))]
	s := &p.l[p.i]
	switch w.r.Intn(5) {
	case 0:
		s.Name = w.pick("x", "by", "times", "until", "emit", "to", "from", "order", "out", "repeat", "addE", "V")
	case 1:
		s.Args = args(w.pick("", "o", "1", "-", "0", "w", "A", "t", "nt", "p", "n", "11"))
	case 2:
		other := all[w.r.Intn(len(all))]
		*s = step(other.l[other.i].Name)
	case 3:
		q := w.r.Intn(len(p.l))
		p.l[p.i], p.l[q] = p.l[q], p.l[p.i]
	case 4:
		if n := len(s.Args); n > 0 {
			s.Args[w.r.Intn(n)] = arg(set()[w.r.Intn(len(set()))])
		}
	}
}

// TestChance: steps that may be, and such that were spoilt once or more.
func TestChance(t *testing.T) {
	m := newModel()
	count := map[api.Errno]int{}
	for seed := range int64(10000) {
		w := newWriter(m, seed)
		l := w.chain(3, true)
		if e := m.hold(t, l); e != api.OK {
			t.Fatalf("%s: %d, but it may be", told(l), e)
		}
		for range 3 {
			w.spoil(l)
			count[m.hold(t, l)]++
		}
	}
	if len(count) != 4 {
		t.Errorf("not all errors are told: %v", count)
	}
	t.Log(count)
}
