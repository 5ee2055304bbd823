package pred_test

import (
	"math"
	"math/big"
	"math/rand"
	"strings"
	"testing"

	"offshoot/api"
	"offshoot/pred"
	"offshoot/show"
	"offshoot/val"
)

// rows are values by their kinds, all numbers in one; in each they rise, and none are the same.
func rows() [][]api.Value {
	f := math.Float64frombits
	return [][]api.Value{
		{val.None()},
		{val.Yes(false), val.Yes(true)},
		{val.Float(math.Inf(-1)), val.Int(math.MinInt64), val.Float(-1 << 63), val.Int(-1), val.Float(-1), val.Float(math.Copysign(0, -1)), val.Int(0), val.Float(0), val.Float(0.5), val.Int(1), val.Float(1),
			val.Int(1 << 53), val.Float(1 << 53), val.Int(1<<53 + 1), val.Int(math.MaxInt64), val.Float(1 << 63), val.Float(math.Inf(1)), val.Float(f(0x7ff8000000000001))},
		{val.Text(""), val.Text("a"), val.Text("aa"), val.Text("aab"), val.Text("ab"), val.Text("aba"), val.Text("b"), val.Text("ba"), val.Text("\xff")},
		{list(), list(val.None()), list(val.Int(1)), list(val.Int(1), val.Int(1)), list(val.Float(1)), list(val.Text("a")), list(list())},
		{val.Map(), val.Map(val.Int(1), val.Int(1)), val.Map(val.Int(1), val.Int(2)), val.Map(val.Text("a"), val.None())},
		{val.Vertex(1), val.Vertex(2), val.Vertex(math.MaxInt64)},
		{val.Edge(1), val.Edge(2)},
	}
}

// model tells which of all values are such, a bit for each.
// A value of the predicates that it makes is told by its place alone, so nothing here asks how values are ordered.
type model struct {
	r    *rand.Rand
	all  []api.Value
	from []int // of each value, where its row begins
	to   []int // and where it ends
}

func newModel(seed int64) *model {
	m := &model{r: rand.New(rand.NewSource(seed))}
	for _, row := range rows() {
		n := len(m.all)
		for range row {
			m.from, m.to = append(m.from, n), append(m.to, n+len(row))
		}
		m.all = append(m.all, row...)
	}
	return m
}

// bits are those from one place to below another one.
func bits(from, to int) *big.Int {
	out := new(big.Int)
	for i := from; i < to; i++ {
		out.SetBit(out, i, 1)
	}
	return out
}

func both(a, b *big.Int) *big.Int               { return new(big.Int).And(a, b) }
func either(a, b *big.Int) *big.Int             { return new(big.Int).Or(a, b) }
func (m *model) others(a *big.Int) *big.Int     { return new(big.Int).AndNot(bits(0, len(m.all)), a) }
func (m *model) below(i int) *big.Int           { return bits(m.from[i], i) }
func (m *model) above(i int) *big.Int           { return bits(i+1, m.to[i]) }
func (m *model) text(i int) (s string, ok bool) { return m.all[i].S, m.all[i].Kind == api.Str }

// texts are those that, cut as they must be, have the text of a value.
func (m *model) texts(i int, has func(s, part string) bool) *big.Int {
	out := new(big.Int)
	part, ok := m.text(i)
	for j := range m.all {
		if s, is := m.text(j); ok && is && has(s, part) {
			out.SetBit(out, j, 1)
		}
	}
	return out
}

func starts(s, part string) bool { return len(s) >= len(part) && s[:len(part)] == part }
func ends(s, part string) bool   { return len(s) >= len(part) && s[len(s)-len(part):] == part }

// plain makes a predicate of values, and tells which are such.
func (m *model) plain() (api.Pred, *big.Int) {
	i, j := m.r.Intn(len(m.all)), m.r.Intn(len(m.all))
	if m.r.Intn(2) == 0 {
		j = m.from[i] + m.r.Intn(m.to[i]-m.from[i])
	}
	p, q := m.all[i], m.all[j]
	switch m.r.Intn(13) {
	case 0:
		return of("eq", p), bits(i, i+1)
	case 1:
		return of("neq", p), m.others(bits(i, i+1))
	case 2:
		return of("lt", p), m.below(i)
	case 3:
		return of("lte", p), bits(m.from[i], i+1)
	case 4:
		return of("gt", p), m.above(i)
	case 5:
		return of("gte", p), bits(i, m.to[i])
	case 6:
		return of("between", p, q), both(bits(i, m.to[i]), m.below(j))
	case 7:
		return of("inside", p, q), both(m.above(i), m.below(j))
	case 8:
		return of("outside", p, q), either(m.below(i), m.above(j))
	case 9:
		return of("startingWith", p), m.texts(i, starts)
	case 10:
		return of("endingWith", p), m.texts(i, ends)
	case 11:
		return of("containing", p), m.texts(i, func(s, part string) bool { return len(strings.Split(s, part)) > 1 || part == "" })
	}
	return m.several()
}

func (m *model) several() (api.Pred, *big.Int) {
	out := new(big.Int)
	p := of("within")
	for range m.r.Intn(api.MostArgs + 1) {
		i := m.r.Intn(len(m.all))
		p.L = append(p.L, m.all[i])
		out.SetBit(out, i, 1)
	}
	if m.r.Intn(2) == 0 {
		p.Op = "without"
		out = m.others(out)
	}
	return p, out
}

// pred makes a predicate with at most so many joined within one another.
func (m *model) pred(deep int) (api.Pred, *big.Int) {
	if deep == 0 || m.r.Intn(3) == 0 {
		return m.plain()
	}
	p, a := m.pred(deep - 1)
	switch m.r.Intn(3) {
	case 0:
		return join("not", p), m.others(a)
	case 1:
		q, b := m.pred(deep - 1)
		return join("and", p, q), both(a, b)
	}
	q, b := m.pred(deep - 1)
	return join("or", p, q), either(a, b)
}

// spoilt is a predicate that may not be, as one place in it is made another one.
func (m *model) spoilt(p api.Pred) api.Pred {
	if len(p.Kids) > 0 && m.r.Intn(4) > 0 {
		i := m.r.Intn(len(p.Kids))
		p.Kids = append([]api.Pred{}, p.Kids...)
		p.Kids[i] = m.spoilt(p.Kids[i])
		return p
	}
	switch m.r.Intn(4) {
	case 0:
		p.Op += "x"
	case 1:
		p.Kids = append(append([]api.Pred{}, p.Kids...), yes(), yes())
	case 2:
		p.L = append(append([]api.Value{}, p.L...), sevens(13)...)
	default:
		p.L = append(append([]api.Value{}, p.L...), val.Vertex(0))
	}
	return p
}

func TestChance(t *testing.T) {
	some := 0
	for seed := range int64(4000) {
		m := newModel(seed)
		p, want := m.pred(int(seed % 13))
		bad := m.spoilt(p)
		may(t, true, p)
		may(t, false, bad)
		for i, v := range m.all {
			if got := pred.Holds(p, v); got != (want.Bit(i) == 1) {
				t.Fatalf("%s of %s: %v", show.Pred(p), show.Value(v), got)
			}
			if pred.Holds(bad, v) {
				t.Fatalf("%s, which may not be, of %s: true", show.Pred(bad), show.Value(v))
			}
		}
		if n := want.BitLen(); n > 0 && n < len(m.all) {
			some++
		}
	}
	if some < 1000 {
		t.Error(some, "predicates by which some are such, and some are not: too few")
	}
}
