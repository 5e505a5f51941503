package matrix

import "mooring/gf"

// reduce brings rows, in their place, to the form in which each row begins with
// a 1 that stands alone in its column, as far as the first columns of them go;
// it answers how many rows begin so. No row of it is shared with anybody.
func reduce(rows [][]byte, columns int) int {
	done := 0
	for column := range columns {
		i, ok := leader(rows, done, column)
		if !ok {
			continue
		}
		rows[done], rows[i] = rows[i], rows[done]
		scale(rows[done], column)
		sweep(rows, done, column)
		done++
	}
	return done
}

// leader looks, from a row on, for the first that is not 0 in a column.
func leader(rows [][]byte, from, column int) (int, bool) {
	for i := from; i < len(rows); i++ {
		if rows[i][column] != 0 {
			return i, true
		}
	}
	return 0, false
}

// scale makes a row's element in a column, which is not 0, a 1.
func scale(row []byte, column int) {
	inverse, _ := gf.Inv(row[column])
	for j := range row {
		row[j] = gf.Mul(row[j], inverse)
	}
}

// sweep makes a column 0 in all rows but one, by adding multiples of that one,
// which has a 1 there.
func sweep(rows [][]byte, one, column int) {
	for i, row := range rows {
		if i != one && row[column] != 0 {
			// Minus is plus here; and all rows are equally long.
			rows[i], _ = gf.AddMul(row, rows[one], row[column])
		}
	}
}
