package shop

import (
	"strconv"
	"strings"

	"cabinetry/api"
	"cabinetry/fast"
	"cabinetry/run"
	"cabinetry/sql"
	"cabinetry/val"
	"cabinetry/vm"
)

// numbered is a word and numbers behind it.
func numbered(word string, l []int) string {
	for _, k := range l {
		word += " " + strconv.Itoa(k)
	}
	return word
}

// list tells the records for which a condition is true.
func list(c *content, w []string) (string, api.Errno) {
	b, e := c.find(w[0])
	if e != api.OK {
		return "", e
	}
	_, why, e := fast.Slow(b, w[1], true)
	if e != api.OK {
		return "", e
	}
	if why != 0 {
		return "", api.ErrType
	}
	l, _, e := fast.Fast(b, w[1], true)
	return numbered("list:", l), e
}

// inOrder tells the records in the order of a tag.
func inOrder(c *content, w []string) (string, api.Errno) {
	b, e := c.find(w[0])
	if e != api.OK {
		return "", e
	}
	l, e := b.Order(w[1])
	return numbered("order:", l), e
}

// query tells the rows of a query.
func query(c *content, w []string) (string, api.Errno) {
	_, rows, e := sql.Query(w[0], c.names(), c.tables())
	if e != api.OK {
		return "", e
	}
	var lines []string
	for _, row := range rows {
		var texts []string
		for _, v := range row {
			s, _ := val.Show(v)
			texts = append(texts, s)
		}
		lines = append(lines, strings.Join(texts, ","))
	}
	return "sql: " + strings.Join(lines, " / "), api.OK
}

// sourceOf is the source that an order's text means.
func sourceOf(s string) string {
	return strings.ReplaceAll(s, "|", "\n")
}

// told is the text of an outcome.
func told(o api.Outcome) string {
	s := "done"
	switch o.Kind {
	case api.Died:
		s = "died " + strconv.Itoa(o.Why)
	case api.Tired:
		s = "tired"
	}
	for _, line := range o.Lines {
		s += " / " + line
	}
	return s
}

// interpret tells what the interpreter makes of a program.
func interpret(c *content, w []string) (string, api.Errno) {
	o, _, e := run.Source(sourceOf(w[0]), c.names(), c.tables())
	return "do: " + told(o), e
}

// compile tells what the machine makes of a program.
func compile(c *content, w []string) (string, api.Errno) {
	o, _, e := vm.Source(sourceOf(w[0]), c.names(), c.tables())
	return "vm: " + told(o), e
}
