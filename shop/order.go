package shop

import (
	"maps"
	"slices"
	"strconv"
	"strings"

	"cabinetry/api"
	"cabinetry/bag"
	"cabinetry/table"
)

const (
	// keptChanges is how many changes can be undone.
	keptChanges = 10
	// longestResult is how many bytes of a result are kept.
	longestResult = 1000
)

// kind is a kind of orders: how many words stand behind its first one, whether the last of them is the rest of the line, blanks too, and what it does.
type kind struct {
	words int
	rest  bool
	do    func(c *content, w []string) api.Errno
}

// kinds are the kinds of orders by their first words.
func kinds() map[string]kind {
	return map[string]kind{
		"table":     {2, false, changing(create)},
		"drop":      {1, false, changing(drop)},
		"add":       {2, true, onTable(add)},
		"set":       {4, true, onTable(set)},
		"del":       {2, false, onTable(marking(true))},
		"recall":    {2, false, onTable(marking(false))},
		"pack":      {1, false, onTable(pack)},
		"zap":       {1, false, onTable(zap)},
		"tag":       {3, true, onTable(tagging(0))},
		"unique":    {3, true, onTable(tagging(1))},
		"candidate": {3, true, onTable(tagging(2))},
		"untag":     {2, false, onTable(untag)},
		"undo":      {0, false, undo},
		"list":      {2, true, telling(list)},
		"order":     {2, false, telling(inOrder)},
		"sql":       {1, true, telling(query)},
		"do":        {1, true, telling(interpret)},
		"vm":        {1, true, telling(compile)},
	}
}

// parse takes an order apart.
func parse(order string) (kind, []string, bool) {
	if len(order) < 1 || len(order) > api.MaxLine || strings.ContainsFunc(order, isStrange) {
		return kind{}, nil, false
	}
	first, rest, more := strings.Cut(order, " ")
	k, ok := kinds()[first]
	if !ok || more != (k.words > 0) {
		return kind{}, nil, false
	}
	if !more {
		return k, nil, true
	}
	words := strings.SplitN(rest, " ", k.words)
	if len(words) < k.words || slices.Contains(words, "") {
		return kind{}, nil, false
	}
	if !k.rest && strings.Contains(words[k.words-1], " ") {
		return kind{}, nil, false
	}
	return k, words, true
}

func isStrange(r rune) bool {
	return r < 32 || r > 126
}

// execute executes an order. With an error the content is of no use.
func (c *content) execute(order string) api.Errno {
	k, words, ok := parse(order)
	if !ok {
		return api.ErrSyntax
	}
	if len(c.orders) >= api.MaxPages {
		return api.ErrLarge
	}
	if e := k.do(c, words); e != api.OK {
		return e
	}
	c.orders = append(slices.Clone(c.orders), order)
	return api.OK
}

// changing makes an order of a change of the tables.
func changing(do func(c *content, w []string) api.Errno) func(c *content, w []string) api.Errno {
	return func(c *content, w []string) api.Errno {
		before := c.bags
		c.bags = map[string]*bag.Bag{}
		maps.Copy(c.bags, before)
		if e := do(c, w); e != api.OK {
			return e
		}
		c.before = append(slices.Clone(c.before), before)
		c.before = c.before[max(0, len(c.before)-keptChanges):]
		c.changes++
		return api.OK
	}
}

// onTable makes an order of a change of the table that the first word names.
func onTable(do func(b *bag.Bag, w []string) api.Errno) func(c *content, w []string) api.Errno {
	return changing(func(c *content, w []string) api.Errno {
		b, e := c.find(w[0])
		if e != api.OK {
			return e
		}
		// What can be undone keeps the bag as it is.
		b = b.Copy()
		c.bags[w[0]] = b
		return do(b, w[1:])
	})
}

// telling makes an order of what tells a result.
func telling(tell func(c *content, w []string) (string, api.Errno)) func(c *content, w []string) api.Errno {
	return func(c *content, w []string) api.Errno {
		s, e := tell(c, w)
		if e != api.OK {
			return e
		}
		c.results = append(slices.Clone(c.results), cleaned(s))
		return api.OK
	}
}

// cleaned is a text as it stands in the results.
func cleaned(s string) string {
	b := []byte(s[:min(len(s), longestResult)])
	for i, c := range b {
		if c < 32 || c > 126 {
			b[i] = '?'
		}
	}
	return string(b)
}

// isName tells whether a text may be the name of a table: that of a field.
func isName(s string) bool {
	return table.ValidateFields([]api.Field{{Name: s, Kind: api.Truth, Width: 1}}) == api.OK
}

// find returns the bag of a table.
func (c *content) find(name string) (*bag.Bag, api.Errno) {
	if !isName(name) {
		return nil, api.ErrArg
	}
	b, ok := c.bags[name]
	if !ok {
		return nil, api.ErrNone
	}
	return b, api.OK
}

// number reads a number. One that is below all integers is one that nothing has, and is told as the least one.
func number(s string) (int, bool) {
	digits := strings.TrimPrefix(s, "-")
	isDigit := func(c byte) bool { return c >= '0' && c <= '9' }
	for i := range len(digits) {
		if !isDigit(digits[i]) {
			return 0, false
		}
	}
	if digits == "" || digits[0] == '0' && s != "0" {
		return 0, false
	}
	n, err := strconv.Atoi(s)
	return n, err == nil || n < 0
}
