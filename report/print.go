package report

import (
	"slices"

	"cabinetry/api"
	"cabinetry/table"
	"cabinetry/val"
)

func display(v api.Value) string {
	s, _ := val.Show(v)
	return s
}

// printer prints a report.
type printer struct {
	t             api.Table
	width, length int
	groups        []string
	bands         []api.Band
	pages         [][]string
	page          []string
	begun         bool // the page has a line that is no head of it
	headed        bool // the page has its heads
	first         int  // a record, or 0
	next, last    int
	total         *tally
	tallies       []*tally // of groups
}

// of are the bands of a kind and a group.
func (p *printer) of(kind, group int) []api.Band {
	var out []api.Band
	for _, b := range p.bands {
		if b.Kind == kind && b.Group == group {
			out = append(out, b)
		}
	}
	return out
}

func (p *printer) line(b api.Band, k int, s *tally) string {
	return lineOf(p.t, b, p.width, k, len(p.pages)+1, s)
}

// free is how many lines fit before the feet of the page.
func (p *printer) free() int {
	return p.length - len(p.of(pageFoot, 0)) - len(p.page)
}

// heads puts the heads of the page.
func (p *printer) heads() {
	p.headed = true
	for _, b := range p.of(pageHead, 0) {
		p.page = append(p.page, p.line(b, p.next, p.total))
	}
}

// fits tells whether lines fit to the page, behind its heads. Titles do not wait for these, so that they may be missing on a page that has begun.
func (p *printer) fits(lines int) bool {
	if !p.headed {
		lines += len(p.of(pageHead, 0))
	}
	return p.free() >= lines
}

// turn ends the page.
func (p *printer) turn() {
	for p.free() > 0 {
		p.page = append(p.page, "")
	}
	for _, b := range p.of(pageFoot, 0) {
		p.page = append(p.page, p.line(b, p.last, p.total))
	}
	p.pages = append(p.pages, p.page)
	p.page, p.begun, p.headed = nil, false, false
}

// room makes room for a line, behind the heads of its page.
func (p *printer) room() {
	if p.begun && !p.fits(1) {
		p.turn()
	}
	if !p.headed {
		p.heads()
	}
	p.begun = true
}

// put puts a line, which is made when it is known on which page it stands.
func (p *printer) put(text func() string) {
	p.room()
	p.page = append(p.page, text())
}

// titles puts the titles, which stand before the heads of their page.
func (p *printer) titles() {
	for _, b := range p.of(titleBand, 0) {
		if p.free() < 1 {
			p.turn()
		}
		p.page = append(p.page, p.line(b, p.first, p.total))
		p.begun = true
	}
}

// feet puts the feet of groups from one on, the last one first.
func (p *printer) feet(from int) {
	for g := len(p.groups) - 1; g >= from; g-- {
		for _, b := range p.of(groupFoot, g) {
			p.put(func() string { return p.line(b, p.last, p.tallies[g]) })
		}
	}
}

// begin begins groups from one on, and puts their heads, so that something stands behind them.
func (p *printer) begin(from int) {
	lines := 0
	for g := from; g < len(p.groups); g++ {
		p.tallies[g].begin()
		lines += len(p.of(groupHead, g))
	}
	if lines == 0 {
		return
	}
	if len(p.of(detailBand, 0)) > 0 {
		lines++
	}
	if p.begun && !p.fits(lines) {
		p.turn()
	}
	for g := from; g < len(p.groups); g++ {
		for _, b := range p.of(groupHead, g) {
			p.put(func() string { return p.line(b, p.next, p.tallies[g]) })
		}
	}
}

// count counts a record.
func (p *printer) count(k int) {
	p.last = k
	p.total.add(p.t, k)
	for _, s := range p.tallies {
		s.add(p.t, k)
	}
}

// details puts the lines of a record. It counts when its first line is put: what ends the page before is about those so far.
func (p *printer) details(k int) {
	l := p.of(detailBand, 0)
	if len(l) > 0 {
		p.room()
	}
	p.count(k)
	for _, b := range l {
		p.put(func() string { return p.line(b, k, p.total) })
	}
}

func (p *printer) print() {
	records := live(p.t)
	if len(records) > 0 {
		p.first = records[0]
	}
	p.next = p.first
	p.titles()
	var before []api.Value
	for _, k := range records {
		p.next = k
		now := groupValues(p.t, k, p.groups)
		if g := changed(before, now); g < len(p.groups) {
			if before != nil {
				p.feet(g)
			}
			p.begin(g)
		}
		before = now
		p.details(k)
	}
	p.next = 0
	if len(records) > 0 {
		p.feet(0)
	}
	for _, b := range p.of(summaryBand, 0) {
		p.put(func() string { return p.line(b, p.last, p.total) })
	}
	if p.begun {
		p.turn()
	}
	if len(p.pages) == 0 {
		p.empty()
	}
}

// empty prints a page without other lines, whose heads are those before the first record.
func (p *printer) empty() {
	all := p.total
	p.total, p.next = newTally(), p.first
	p.heads()
	p.total = all
	p.turn()
}

// Print returns the pages of a report.
func Print(t api.Table, width, length int, groups []string, l []api.Band) ([][]string, api.Errno) {
	if e := Validate(width, length, groups, l); e != api.OK {
		return nil, e
	}
	if e := table.Validate(t); e != api.OK {
		return nil, e
	}
	p := &printer{t: t, width: width, length: length, groups: slices.Clone(groups), bands: l, total: newTally()}
	for range groups {
		p.tallies = append(p.tallies, newTally())
	}
	p.print()
	return p.pages, api.OK
}
