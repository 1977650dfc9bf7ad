package nodes

import (
	"winnower/api"
)

// itemForm is a kind, and whether it may have HasBody.
type itemForm struct {
	kind    api.ItemKind
	hasBody bool
}

// itemRow is what an item of a form has.
type itemRow struct {
	named               bool
	params, exprs, body span
}

// itemRows tells all forms that may be. HasBody is a rule's alone: of the other
// kinds the Body is told without it.
func itemRows() map[itemForm]itemRow {
	return map[itemForm]itemRow{
		{api.IBegin, false}: {body: atLeast(0)},
		{api.IEnd, false}:   {body: atLeast(0)},
		{api.IRule, false}:  {exprs: span{1, 2}},
		{api.IRule, true}:   {exprs: upTo(2), body: atLeast(0)},
		{api.IFunc, false}:  {named: true, params: upTo(api.MaxParams), body: atLeast(0)},
	}
}

// itemsFit says whether each item has what its kind asks for and nothing else,
// but for what the parts within it have.
func itemsFit(items []api.Item) bool {
	rows := itemRows()
	for i := range items {
		if !itemFits(rows, &items[i]) {
			return false
		}
	}
	return true
}

func itemFits(rows map[itemForm]itemRow, it *api.Item) bool {
	row, ok := rows[itemForm{it.Kind, it.HasBody}]
	if !ok || !nameFits(row.named, it.Name) {
		return false
	}
	return row.params.holds(len(it.Params)) && allNames(it.Params) && row.exprs.holds(len(it.Exprs)) && row.body.holds(len(it.Body))
}
