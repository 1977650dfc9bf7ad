package resolve

import (
	"slices"

	"winnower/api"
)

// program is a program whose functions are known.
type program struct {
	items     []api.Item
	functions map[string]int // by their names, which items they are
}

// function tells the function of a name, if there is one.
func (r *program) function(name string) (*api.Item, bool) {
	at, ok := r.functions[name]
	if !ok {
		return nil, false
	}
	return &r.items[at], true
}

// functionsOf tells which items functions are, by their names, or the first
// function that has a name which was given already.
func functionsOf(items []api.Item) (map[string]int, api.Fault) {
	functions := map[string]int{}
	for i := range items {
		it := &items[i]
		if it.Kind != api.IFunc {
			continue
		}
		_, given := functions[it.Name]
		if given || Special(it.Name) || !areNew(it.Params) {
			return nil, api.Fault{Err: api.ErrTwice, Line: it.Line}
		}
		functions[it.Name] = i
	}
	return functions, api.Fault{}
}

// areNew says whether each parameter has a name of its own.
func areNew(params []string) bool {
	for i, name := range params {
		if Special(name) || slices.Contains(params[:i], name) {
			return false
		}
	}
	return true
}
