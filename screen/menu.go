package screen

import (
	"slices"

	"cabinetry/api"
)

// menu is items with a bar.
type menu struct {
	items []string
	on    []bool
	at    int
}

// find returns the first item that is on and wanted, from one on in steps, round and round; -1: there is none.
func (m *menu) find(from, step int, wanted func(i int) bool) int {
	n := len(m.items)
	for k := range n {
		i := ((from+k*step)%n + n) % n
		if m.on[i] && wanted(i) {
			return i
		}
	}
	return -1
}

func anyItem(int) bool { return true }

// menuKeys are what the keys do that are no characters and do not end a menu.
func menuKeys() [keyEnd + 1]func(m *menu) int {
	down := func(m *menu) int { return m.find(m.at+1, 1, anyItem) }
	up := func(m *menu) int { return m.find(m.at-1, -1, anyItem) }
	return [keyEnd + 1]func(m *menu) int{
		keyDown: down, keyRight: down, keyUp: up, keyLeft: up,
		keyHome: func(m *menu) int { return m.find(0, 1, anyItem) },
		keyEnd:  func(m *menu) int { return m.find(len(m.items)-1, -1, anyItem) },
	}
}

// press does what a key does.
func (m *menu) press(key int) {
	if isCharacter(key) {
		begins := func(i int) bool { return capital(m.items[i][0]) == capital(byte(key)) }
		if i := m.find(m.at+1, 1, begins); i >= 0 {
			m.at = i
		}
		return
	}
	keys := menuKeys()
	if key >= 0 && key < len(keys) && keys[key] != nil {
		m.at = keys[key](m)
	}
}

// Menu returns the item that is chosen, and true, or the one at which the bar is behind keys.
func Menu(items []string, on []bool, at int, keys []int) (int, bool, api.Errno) {
	isWrong := func(s string) bool { return len(s) < 1 || len(s) > api.MaxLine }
	if len(items) < 1 || len(items) > api.MaxItems || slices.ContainsFunc(items, isWrong) {
		return 0, false, api.ErrArg
	}
	if len(on) != len(items) {
		return 0, false, api.ErrFit
	}
	if at < 0 || at >= len(items) {
		return 0, false, api.ErrArg
	}
	m := &menu{items: items, on: on}
	m.at = m.find(at, 1, anyItem)
	if m.at < 0 {
		return 0, false, api.ErrState
	}
	for _, key := range keys {
		switch key {
		case keyEnter:
			return m.at, true, api.OK
		case keyEscape:
			return -1, false, api.OK
		}
		m.press(key)
	}
	return m.at, false, api.OK
}

const mostPage = 25

// browse is rows of which a page is shown, with a bar.
type browse struct {
	count, page int
	first, bar  int
}

// to moves the bar to a row, and the page if it must.
func (b *browse) to(row int) {
	if row < 0 || row >= b.count {
		return
	}
	b.bar = row
	b.first = max(min(b.first, row), row-b.page+1)
}

func (b *browse) left() {
	before := b.first
	b.first = max(b.first-b.page, 0)
	b.bar -= before - b.first
}

func (b *browse) right() {
	if b.first+b.page < b.count {
		b.first += b.page
		b.bar = min(b.bar+b.page, b.count-1)
	} else {
		b.bar = max(b.count-1, 0)
	}
}

// browseKeys are what the keys do.
func browseKeys() [keyEnd + 1]func(b *browse) {
	return [keyEnd + 1]func(b *browse){
		keyDown:  func(b *browse) { b.to(b.bar + 1) },
		keyUp:    func(b *browse) { b.to(b.bar - 1) },
		keyHome:  func(b *browse) { b.to(0) },
		keyEnd:   func(b *browse) { b.to(b.count - 1) },
		keyLeft:  (*browse).left,
		keyRight: (*browse).right,
	}
}

// Browse returns the row at the bar behind keys, and those that are shown.
func Browse(rows []int, page int, keys []int) (int, []int, api.Errno) {
	if len(rows) > api.MaxRecs || page < 1 || page > mostPage {
		return 0, nil, api.ErrArg
	}
	for i := range rows {
		if i > 0 && rows[i-1] >= rows[i] {
			return 0, nil, api.ErrArg
		}
	}
	if len(rows) == 0 {
		return 0, nil, api.OK
	}
	b := &browse{count: len(rows), page: page}
	do := browseKeys()
	for _, key := range keys {
		if key >= 0 && key < len(do) && do[key] != nil {
			do[key](b)
		}
	}
	return rows[b.bar], slices.Clone(rows[b.first:min(b.first+page, len(rows))]), api.OK
}
