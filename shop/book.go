package shop

import (
	"strconv"
	"strings"

	"cabinetry/api"
)

const (
	sumModulo = 1000033
	sumFactor = 263
)

// Sum returns the sum of a number and a text.
func Sum(before int, text string) int {
	n := (before%sumModulo + sumModulo) % sumModulo
	for i := range len(text) {
		n = (n*sumFactor + int(text[i]) + 1) % sumModulo
	}
	return n
}

// isLine tells whether a text may stand in a book.
func isLine(s string) bool {
	return len(s) >= 1 && len(s) <= api.MaxLine && !strings.Contains(s, "\n")
}

// written is the book of orders.
func written(orders []string) string {
	var b strings.Builder
	sum := 0
	for _, s := range orders {
		sum = Sum(sum, s)
		b.WriteString(strconv.Itoa(sum) + " " + s + "\n")
	}
	return b.String()
}

// Write returns the book of orders.
func Write(orders []string) (string, api.Errno) {
	if len(orders) > api.MaxPages {
		return "", api.ErrLarge
	}
	for _, s := range orders {
		if !isLine(s) {
			return "", api.ErrArg
		}
	}
	return written(orders), api.OK
}

// Read returns the orders of the longest beginning of a text that is a book, and the rest.
func Read(book string) ([]string, string) {
	var out []string
	sum := 0
	for len(out) < api.MaxPages {
		line, rest, ok := strings.Cut(book, "\n")
		if !ok {
			break
		}
		told, order, ok := strings.Cut(line, " ")
		if !ok || !isLine(order) {
			break
		}
		next := Sum(sum, order)
		if told != strconv.Itoa(next) {
			break
		}
		out = append(out, order)
		sum, book = next, rest
	}
	return out, book
}

// Merge returns the longer one of two books, one of which is the beginning of the other.
func Merge(a, b string) (string, int, api.Errno) {
	first, restA := Read(a)
	second, restB := Read(b)
	if restA != "" || restB != "" {
		return "", 0, api.ErrBroken
	}
	same := 0
	for same < min(len(first), len(second)) && first[same] == second[same] {
		same++
	}
	if same < min(len(first), len(second)) {
		return "", same, api.ErrProof
	}
	if len(first) >= len(second) {
		return a, len(first), api.OK
	}
	return b, len(second), api.OK
}

// Replay makes a shop by executing the orders of a book.
func Replay(book string) (*Shop, int, api.Errno) {
	orders, rest := Read(book)
	if rest != "" {
		return nil, 0, api.ErrBroken
	}
	s := New()
	for i, order := range orders {
		if e := s.Do(order); e != api.OK {
			return nil, i, e
		}
	}
	return s, len(orders), api.OK
}

// Run makes a shop, executes orders, and returns their errors and the book.
func Run(orders []string) ([]api.Errno, string, api.Errno) {
	if len(orders) > api.MaxPages {
		return nil, "", api.ErrLarge
	}
	s := New()
	var out []api.Errno
	for _, order := range orders {
		out = append(out, s.Do(order))
	}
	return out, s.Book(), api.OK
}
