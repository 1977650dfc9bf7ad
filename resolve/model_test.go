package resolve

import (
	"math"
	"slices"
	"strconv"

	"winnower/api"
	"winnower/nodes"
)

// The model has the chapter's words another way: all faults and all places of
// names are gathered, each with a path that says when it is come to, and only then
// put in order; what is tied is looked at again and again, until nothing turns.

// modelFault is a fault, when it is come to, and which one it is in the chapter's
// row of them.
type modelFault struct {
	path []int
	rank int
	api.Fault
}

// modelName is a name at a place. whose has the item ahead of it, if it is one of
// the item's own names.
type modelName struct {
	path        []int
	whose, name string
}

type model struct {
	items        []api.Item
	fns          map[string]int
	faults       []modelFault
	names        []modelName
	array, value map[string]bool
	tied         [][2]string
	item, line   int // where the model is
}

func modelResolve(p api.Program) (api.Names, api.Fault) {
	if !nodes.Right(p) {
		return api.Names{}, api.Fault{Err: api.ErrTree}
	}
	m := &model{items: p.Items, fns: map[string]int{}, array: map[string]bool{}, value: map[string]bool{}}
	if fault := m.twice(); fault.Err != api.OK {
		return api.Names{}, fault
	}
	for i := len(p.Items) - 1; i >= 0; i-- {
		m.itemAt(i)
	}
	if len(m.faults) > 0 {
		return api.Names{}, slices.MinFunc(m.faults, func(a, b modelFault) int {
			if c := slices.Compare(a.path, b.path); c != 0 {
				return c
			}
			return a.rank - b.rank
		}).Fault
	}
	if m.spread(); m.isBoth() {
		return api.Names{}, api.Fault{Err: api.ErrUse}
	}
	return m.told(), api.Fault{}
}

// twice has P16.1.
func (m *model) twice() api.Fault {
	for i, it := range m.items {
		if it.Kind != api.IFunc {
			continue
		}
		all := append(specials(), it.Params...)
		for k, name := range it.Params {
			if slices.Index(all, name) != len(specials())+k {
				return api.Fault{Err: api.ErrTwice, Line: it.Line}
			}
		}
		for j, other := range m.items[:i] {
			if m.items[j].Kind == api.IFunc && other.Name == it.Name {
				return api.Fault{Err: api.ErrTwice, Line: it.Line}
			}
		}
		if slices.Contains(specials(), it.Name) {
			return api.Fault{Err: api.ErrTwice, Line: it.Line}
		}
		m.fns[it.Name] = i
	}
	return api.Fault{}
}

func (m *model) wrong(path []int, rank int, err api.Errno) {
	m.faults = append(m.faults, modelFault{path, rank, api.Fault{Err: err, Line: m.line}})
}

// below tells the path of a part's part.
func below(path []int, at ...int) []int {
	return append(slices.Clone(path), at...)
}

func (m *model) itemAt(i int) {
	it := m.items[i]
	m.item, m.line = i, it.Line
	for _, name := range it.Params {
		if _, ok := m.fns[name]; ok {
			m.wrong([]int{i}, 1, api.ErrTwice)
		}
	}
	for k, e := range it.Exprs {
		m.expr(e, []int{i, 0, k}, "value")
	}
	m.stmts(it.Body, []int{i, 1}, false)
}

func (m *model) stmts(list []api.Stmt, path []int, loop bool) {
	for k := len(list) - 1; k >= 0; k-- {
		m.stmt(list[k], below(path, k), loop)
	}
}

func (m *model) stmt(s api.Stmt, path []int, loop bool) {
	m.line = s.Line
	kind := m.items[m.item].Kind
	switch s.Kind {
	case api.SBreak, api.SContinue:
		if !loop {
			m.wrong(path, 3, api.ErrPlace)
		}
	case api.SNext:
		if kind != api.IRule {
			m.wrong(path, 3, api.ErrPlace)
		}
	case api.SReturn:
		if kind != api.IFunc {
			m.wrong(path, 3, api.ErrPlace)
		}
	case api.SDelete:
		m.named(s.S, path, "array")
	case api.SForIn:
		m.named(s.S, path, "value")
	}
	as := "value"
	if s.Kind == api.SForIn {
		as = "array"
	}
	for k, e := range s.Exprs {
		m.expr(e, below(path, 0, k), as)
	}
	switch s.Kind {
	case api.SFor:
		m.stmts(s.Body, below(path, 2), true)
		m.stmts(s.Else, below(path, 1), loop)
	case api.SWhile, api.SDo, api.SForIn:
		m.stmts(s.Body, below(path, 1), true)
	default:
		m.stmts(s.Else, below(path, 2), loop)
		m.stmts(s.Body, below(path, 1), loop)
	}
}

// expr takes an expression, and what a variable in its place is used as: array,
// value, none, or tied to a parameter, whose item stands in to.
func (m *model) expr(e api.Expr, path []int, as string, to ...string) {
	kids := func(at int) (string, []string) { return "value", nil }
	switch e.Kind {
	case api.XVar:
		m.named(e.S, path, as, to...)
	case api.XIndex, api.XIn:
		m.named(e.S, path, "array")
	case api.XCall:
		fn, ok := m.fns[e.S]
		switch {
		case !ok:
			m.wrong(path, 4, api.ErrCall)
		case len(e.Kids) > len(m.items[fn].Params):
			m.wrong(path, 5, api.ErrCount)
		default:
			kids = func(at int) (string, []string) {
				param := strconv.Itoa(fn) + " " + m.items[fn].Params[at]
				if e.Kids[at].Kind != api.XVar {
					m.value[param] = true
				}
				return "tied", []string{param}
			}
		}
	case api.XBuiltin:
		m.builtin(e, path)
		kids = func(at int) (string, []string) {
			switch {
			case e.S == "split" && at == 1:
				return "array", nil
			case e.S == "length" && at == 0:
				return "none", nil
			}
			return "value", nil
		}
	}
	for at := len(e.Kids) - 1; at >= 0; at-- {
		as, to := kids(at)
		m.expr(e.Kids[at], below(path, at), as, to...)
	}
}

// builtinCounts are how many arguments builtins may have, as the chapter lists
// them.
func builtinCounts() map[string][2]int {
	counts := map[string][2]int{
		"length": {0, 1}, "substr": {2, 3}, "index": {2, 2}, "match": {2, 2}, "split": {2, 3}, "sub": {2, 3}, "gsub": {2, 3},
		"sprintf": {1, math.MaxInt}, "srand": {0, 1}, "rand": {0, 0},
	}
	for _, name := range []string{"tolower", "toupper", "int", "close", "system"} {
		counts[name] = [2]int{1, 1}
	}
	return counts
}

func (m *model) builtin(e api.Expr, path []int) {
	kindAt := func(at int) api.ExprKind {
		if at < len(e.Kids) {
			return e.Kids[at].Kind
		}
		return api.XVar
	}
	count := builtinCounts()[e.S]
	if len(e.Kids) < count[0] || len(e.Kids) > count[1] {
		m.wrong(path, 6, api.ErrCount)
	}
	if e.S == "split" && kindAt(1) != api.XVar {
		m.wrong(path, 7, api.ErrUse)
	}
	lvalues := []api.ExprKind{api.XVar, api.XIndex, api.XField}
	if (e.S == "sub" || e.S == "gsub") && !slices.Contains(lvalues, kindAt(2)) {
		m.wrong(path, 8, api.ErrUse)
	}
}

func (m *model) named(name string, path []int, as string, to ...string) {
	special := slices.Contains(specials(), name)
	whose := " " + name
	if slices.Contains(m.items[m.item].Params, name) {
		whose = strconv.Itoa(m.item) + whose
	} else {
		if _, ok := m.fns[name]; ok {
			m.wrong(path, 2, api.ErrUse)
		}
		if special && as == "array" {
			m.wrong(path, 9, api.ErrUse)
		}
		if !special {
			m.names = append(m.names, modelName{path, whose, name})
		}
		if special {
			m.value[whose] = true
		}
	}
	switch as {
	case "array":
		m.array[whose] = true
	case "value":
		m.value[whose] = true
	case "tied":
		m.tied = append(m.tied, [2]string{whose, to[0]})
	}
}

// spread lets what is tied be used as what it is tied to is, until nothing turns.
func (m *model) spread() {
	for turned := true; turned; {
		turned = false
		for _, pair := range m.tied {
			for _, used := range []map[string]bool{m.array, m.value} {
				if used[pair[0]] != used[pair[1]] {
					used[pair[0]], used[pair[1]], turned = true, true, true
				}
			}
		}
	}
}

func (m *model) isBoth() bool {
	for whose := range m.array {
		if m.value[whose] {
			return true
		}
	}
	return false
}

func (m *model) told() api.Names {
	slices.SortFunc(m.names, func(a, b modelName) int { return slices.Compare(a.path, b.path) })
	var told api.Names
	for _, n := range m.names {
		sym := api.Sym{Name: n.name, Array: m.array[n.whose]}
		if !slices.Contains(told.Globals, sym) {
			told.Globals = append(told.Globals, sym)
		}
	}
	for i, it := range m.items {
		if it.Kind != api.IFunc {
			continue
		}
		fn := api.Fn{Name: it.Name, Item: i}
		for _, name := range it.Params {
			fn.Params = append(fn.Params, api.Sym{Name: name, Array: m.array[strconv.Itoa(i)+" "+name]})
		}
		told.Fns = append(told.Fns, fn)
	}
	return told
}
