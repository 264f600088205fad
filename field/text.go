package field

import (
	"slices"
	"strings"

	"thermion/api"
)

// The first row of a text says which sort of plan it is.
const (
	roundRow = "round"
	flatRow  = "flat"
)

// vacuum is the character of a vacuum cell; that of an electrode is its digit.
const vacuum = '.'

// Text returns the text of a plan.
func Text(p api.Plan) (string, api.Errno) {
	if e := Check(p); e != api.OK {
		return "", e
	}
	text := []byte(flatRow)
	if p.Round {
		text = []byte(roundRow)
	}
	for row := range slices.Chunk(p.Cells, p.Wide) {
		text = append(text, '\n')
		for _, c := range row {
			text = append(text, character(c))
		}
	}
	return string(append(text, '\n')), api.OK
}

// character returns the character of a cell.
func character(c int) byte {
	if c == 0 {
		return vacuum
	}
	return byte('0' + c)
}

// Parse returns the plan of a text; with ErrForm the number of the first row that is not as said.
func Parse(s string) (api.Plan, int, api.Errno) {
	if len(s) > api.MaxPlanText {
		return api.Plan{}, 0, api.ErrLong
	}
	p, wrong := read(s)
	if wrong != 0 {
		return api.Plan{}, wrong, api.ErrForm
	}
	if e := Check(p); e != api.OK {
		return api.Plan{}, 0, e
	}
	return p, 0, api.OK
}

// read returns the plan of a text, and the number of the first row that is not as said (0: there is none).
func read(s string) (p api.Plan, wrong int) {
	rows := strings.Split(s, "\n")
	ended := len(rows) - 1 // what stands behind the last line feed is no row
	if ended == 0 || rows[0] != roundRow && rows[0] != flatRow {
		return p, 1
	}
	p.Round = rows[0] == roundRow
	p.High = ended - 1
	for i, row := range rows[1:ended] {
		if !isRow(row, p.Wide) {
			return p, i + 2
		}
		p.Wide = len(row)
		for _, c := range []byte(row) {
			p.Cells = append(p.Cells, cellOf(c))
		}
	}
	if p.High == 0 || rows[ended] != "" { // the row that is missing, or is not ended
		return p, len(rows)
	}
	return p, 0
}

// isRow reports whether a row has characters of cells alone, as many as the one before it (wide; 0 before the first one), and at least one.
func isRow(row string, wide int) bool {
	for _, c := range []byte(row) {
		if c != vacuum && (c < '1' || c > '0'+api.MaxElectrodes) {
			return false
		}
	}
	return len(row) > 0 && (wide == 0 || len(row) == wide)
}

// cellOf returns the cell of a character.
func cellOf(c byte) int {
	if c == vacuum {
		return 0
	}
	return int(c - '0')
}
