package resolve

import (
	"winnower/api"
)

// firstFault tells the fault of the part that is come to first of those that have
// one.
func (r *program) firstFault() api.Fault {
	var first api.Fault
	r.tellParts(func(p part) {
		if first.Err != api.OK {
			return
		}
		if err := r.fault(p); err != api.OK {
			first = api.Fault{Err: err, Line: p.line()}
		}
	})
	return first
}

// fault tells what is wrong with a part, but for those within it.
func (r *program) fault(p part) api.Errno {
	if name, as, ok := p.name(); ok {
		return r.nameFault(name, as)
	}
	switch {
	case p.expr == nil && p.stmt == nil:
		return r.paramsFault(p.item.Params)
	case p.expr == nil:
		return placeFault(p)
	case p.expr.Kind == api.XCall:
		return r.callFault(p.expr)
	case p.expr.Kind == api.XBuiltin:
		return builtinFault(p.expr)
	}
	return api.OK
}

func (r *program) paramsFault(params []string) api.Errno {
	for _, name := range params {
		if _, ok := r.function(name); ok {
			return api.ErrTwice
		}
	}
	return api.OK
}

// nameFault tells what is wrong with a name. That of a parameter is neither a
// function's nor a special's: its item would have been at fault ahead of it.
func (r *program) nameFault(name string, as use) api.Errno {
	if _, ok := r.function(name); ok || as == asArray && Special(name) {
		return api.ErrUse
	}
	return api.OK
}

// placeFault says whether a statement may stand where it does.
func placeFault(p part) api.Errno {
	may := true
	switch p.stmt.Kind {
	case api.SBreak, api.SContinue:
		may = p.inLoop
	case api.SNext:
		may = p.item.Kind == api.IRule
	case api.SReturn:
		may = p.item.Kind == api.IFunc
	}
	if !may {
		return api.ErrPlace
	}
	return api.OK
}

func (r *program) callFault(call *api.Expr) api.Errno {
	called, ok := r.function(call.S)
	switch {
	case !ok:
		return api.ErrCall
	case len(call.Kids) > len(called.Params):
		return api.ErrCount
	}
	return api.OK
}

func builtinFault(call *api.Expr) api.Errno {
	least, most := arguments(call.S)
	if len(call.Kids) < least || len(call.Kids) > most {
		return api.ErrCount
	}
	may := mayStand(call.S)
	for at := range call.Kids {
		if !may(at, call.Kids[at].Kind) {
			return api.ErrUse
		}
	}
	return api.OK
}
