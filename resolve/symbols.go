package resolve

import (
	"slices"
	"strings"

	"winnower/api"
)

// symbol is a name, and whose it is.
type symbol struct {
	owner *api.Item // the function whose own it is; none, if all see it
	name  string
}

// table has symbols, by numbers in the order in which they come first.
type table struct {
	numbers map[symbol]int
	symbols []symbol
	uses    []use
	ties    map[int][]int // of each one that is tied, those that it is tied to
}

// symbols tells all symbols of a program without a fault, with what each is used
// as by itself.
func (r *program) symbols() *table {
	t := &table{numbers: map[symbol]int{}, ties: map[int][]int{}}
	r.tellParts(func(p part) {
		if name, as, ok := p.name(); ok {
			t.use(symbolOf(p.item, name), as)
		}
		if param, ok := r.param(p); ok {
			t.hand(p, param)
		}
	})
	return t
}

// hand takes an argument that is handed in for a parameter.
func (t *table) hand(p part, param symbol) {
	if p.expr.Kind == api.XVar {
		t.tie(symbolOf(p.item, p.expr.S), param)
		return
	}
	t.use(param, asValue)
}

// param tells the parameter for which a part is handed in, if it is an argument of
// a function's call.
func (r *program) param(p part) (symbol, bool) {
	if p.around == nil || p.around.Kind != api.XCall {
		return symbol{}, false
	}
	called, _ := r.function(p.around.S)
	return symbol{called, called.Params[p.at]}, true
}

func symbolOf(it *api.Item, name string) symbol {
	if isOwn(it, name) {
		return symbol{it, name}
	}
	return symbol{name: name}
}

// number tells the number of a symbol, which is in the table from then on.
func (t *table) number(s symbol) int {
	n, ok := t.numbers[s]
	if !ok {
		n = len(t.symbols)
		t.numbers[s] = n
		t.symbols, t.uses = append(t.symbols, s), append(t.uses, 0)
		if s.isSpecial() {
			t.uses[n] = asValue
		}
	}
	return n
}

func (s symbol) isSpecial() bool {
	return s.owner == nil && Special(s.name)
}

func (t *table) use(s symbol, as use) {
	t.uses[t.number(s)] |= as
}

func (t *table) tie(a, b symbol) {
	from, to := t.number(a), t.number(b)
	t.ties[from] = append(t.ties[from], to)
	t.ties[to] = append(t.ties[to], from)
}

// settle makes all that is tied be used as what any of it is, and says whether
// nothing is used as both.
func (t *table) settle() bool {
	done := make([]bool, len(t.symbols))
	for n := range done {
		if !done[n] {
			t.unite(t.together(n, done))
		}
	}
	return !slices.Contains(t.uses, asArray|asValue)
}

// together tells a symbol and all that is tied to it, directly or by others.
func (t *table) together(first int, done []bool) []int {
	var all []int
	add := func(n int) {
		if !done[n] {
			done[n] = true
			all = append(all, n)
		}
	}
	add(first)
	for i := 0; i < len(all); i++ {
		for _, n := range t.ties[all[i]] {
			add(n)
		}
	}
	return all
}

func (t *table) unite(all []int) {
	var united use
	for _, n := range all {
		united |= t.uses[n]
	}
	for _, n := range all {
		t.uses[n] = united
	}
}

// sym tells what a symbol is, whether or not it is ever used.
func (t *table) sym(s symbol) api.Sym {
	n, ok := t.numbers[s]
	return api.Sym{Name: strings.Clone(s.name), Array: ok && t.uses[n] == asArray}
}

// globals tells what the symbols are that all see, but for the specials.
func (t *table) globals() []api.Sym {
	var syms []api.Sym
	for _, s := range t.symbols {
		if s.owner == nil && !s.isSpecial() {
			syms = append(syms, t.sym(s))
		}
	}
	return syms
}

// fns tells the functions of items, and what their parameters are.
func (t *table) fns(items []api.Item) []api.Fn {
	var fns []api.Fn
	for i := range items {
		it := &items[i]
		if it.Kind != api.IFunc {
			continue
		}
		fn := api.Fn{Name: strings.Clone(it.Name), Item: i}
		for _, name := range it.Params {
			fn.Params = append(fn.Params, t.sym(symbol{it, name}))
		}
		fns = append(fns, fn)
	}
	return fns
}
