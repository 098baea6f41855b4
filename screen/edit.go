package screen

import "cabinetry/api"

// editor is a get that is entered: its text, and the place in it.
type editor struct {
	picture string
	places  []int
	text    []byte
	at      int // the number of the place
	inserts bool
}

// editKeys are what the keys do that are no characters and do not leave a get.
func editKeys() [keyInsert + 1]func(e *editor) {
	return [keyInsert + 1]func(e *editor){
		keyLeft:   func(e *editor) { e.move(e.at - 1) },
		keyRight:  func(e *editor) { e.move(e.at + 1) },
		keyHome:   func(e *editor) { e.move(0) },
		keyEnd:    func(e *editor) { e.move(len(e.places) - 1) },
		keyDelete: func(e *editor) { e.remove() },
		keyInsert: func(e *editor) { e.inserts = !e.inserts },
		keyBackspace: func(e *editor) {
			if e.at > 0 {
				e.at--
				e.remove()
			}
		},
	}
}

// begin makes the text of a get anew, and goes to its first place.
func (e *editor) begin(g api.Get) {
	e.picture, e.places = g.Picture, placesOf(g.Picture)
	e.text = []byte(textOf(g.Picture, g.Value))
	e.at = 0
}

// move goes to a place, if there is one.
func (e *editor) move(to int) {
	if to >= 0 && to < len(e.places) {
		e.at = to
	}
}

// key does what a key does in a get.
func (e *editor) key(key int) {
	if isCharacter(key) {
		e.put(key)
		return
	}
	keys := editKeys()
	if key >= 0 && key < len(keys) && keys[key] != nil {
		keys[key](e)
	}
}

// bytes are what stands at the places.
func (e *editor) bytes() []byte {
	var out []byte
	for _, i := range e.places {
		out = append(out, e.text[i])
	}
	return out
}

// set puts bytes to the places from one on.
func (e *editor) set(from int, b []byte) {
	for k, c := range b {
		e.text[e.places[from+k]] = c
	}
}

// taken are bytes as the places from one on take them; false: one of them is not taken.
func (e *editor) taken(from int, b []byte) ([]byte, bool) {
	var out []byte
	for k, c := range b {
		as, ok := Takes(e.picture[e.places[from+k]], int(c))
		if !ok {
			return nil, false
		}
		out = append(out, as)
	}
	return out, true
}

// put puts a character to the place and goes to the next one.
func (e *editor) put(key int) {
	c, ok := Takes(e.picture[e.places[e.at]], key)
	if !ok {
		return
	}
	if e.inserts {
		behind, ok := e.taken(e.at+1, e.bytes()[e.at:len(e.places)-1])
		if !ok {
			return
		}
		e.set(e.at+1, behind)
	}
	e.set(e.at, []byte{c})
	e.move(e.at + 1)
}

// remove deletes what stands at the place: what stands behind moves up.
func (e *editor) remove() {
	behind, ok := e.taken(e.at, e.bytes()[e.at+1:])
	if !ok { // the place alone becomes a blank
		behind = nil
	}
	e.set(e.at, append(behind, ' '))
}

// Edit returns the text and the place of a get behind keys.
func Edit(g api.Get, keys []int) (string, int, api.Errno) {
	if e := Validate([]api.Get{g}); e != api.OK {
		return "", 0, e
	}
	var e editor
	e.begin(g)
	for _, key := range keys {
		e.key(key)
	}
	return string(e.text), e.places[e.at], api.OK
}
