package show

import (
	"strings"

	"winnower/api"
)

func (w *writer) items(items []api.Item) {
	for i := 0; i < len(items) && !w.out.long; i++ {
		w.item(&items[i])
	}
}

func (w *writer) item(it *api.Item) {
	switch it.Kind {
	case api.IBegin:
		w.braced(it.Body, "BEGIN {")
	case api.IEnd:
		w.braced(it.Body, "END {")
	case api.IFunc:
		w.braced(it.Body, "function ", it.Name, "(", strings.Join(it.Params, ", "), ") {")
	case api.IRule:
		w.rule(it)
	}
}

func (w *writer) rule(it *api.Item) {
	patterns := w.plain(it.Exprs)
	switch {
	case !it.HasBody:
		w.line(patterns)
	case len(it.Exprs) == 0:
		w.braced(it.Body, "{")
	default:
		w.braced(it.Body, patterns, " {")
	}
}
