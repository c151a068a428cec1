import ast
import contextlib
import inspect
import io
import pathlib
import unittest

from threecolours import rooms

PACKAGE = pathlib.Path(rooms.__file__).parent
FILES = sorted(PACKAGE.glob("*.py"))


class Interface(unittest.TestCase):
    def test_names_of_the_arguments(self):
        self.assertEqual(str(inspect.signature(rooms.fair)), "(m, c)")
        self.assertEqual(str(inspect.signature(rooms.rooms)), "(m)")
        self.assertEqual(str(inspect.signature(rooms.found)), "(m, c)")
        self.assertEqual(str(inspect.signature(rooms.lines)), "(m, c)")
        self.assertEqual(str(inspect.signature(rooms.first)), "(m, c)")
        self.assertEqual(str(inspect.signature(rooms.other)), "(m, k, c)")
        self.assertEqual(str(inspect.signature(rooms.way)), "(m, k, c)")
        self.assertEqual(str(inspect.signature(rooms.corners)), "(m, k)")

    def test_nothing_is_printed(self):
        out, err = io.StringIO(), io.StringIO()
        with contextlib.redirect_stdout(out), contextlib.redirect_stderr(err):
            for m in (0, 1, 9, 10):
                rooms.fair(m, [2, 0, 1])
                rooms.rooms(m)
                rooms.found(m, [2, 0, 1])
                rooms.lines(m, [2, 0, 1])
                rooms.first(m, [2, 0, 1])
                for k in (0, 1, 2):
                    rooms.other(m, k, [2, 0, 1])
                    rooms.way(m, k, [2, 0, 1])
                    rooms.corners(m, k)
        self.assertEqual(out.getvalue() + err.getvalue(), "")


class FilesOfThePackage(unittest.TestCase):
    def test_nothing_else_lies_there(self):
        names = sorted(path.name for path in PACKAGE.iterdir() if path.name != "__pycache__")
        self.assertEqual(names, ["__init__.py", "rooms.py"])

    def test_nothing_is_imported(self):
        for path in FILES:
            for node in ast.walk(ast.parse(path.read_text())):
                self.assertNotIsInstance(node, (ast.Import, ast.ImportFrom), path.name)

    def test_signs_and_sizes(self):
        for path in FILES:
            text = path.read_bytes().decode("utf-8")
            self.assertTrue(all(sign == "\n" or " " <= sign <= "~" for sign in text), path.name)
            lines = text.split("\n")
            self.assertLessEqual(len(lines), 400, path.name)
            self.assertLessEqual(max(len(line) for line in lines), 120, path.name)
            for node in ast.walk(ast.parse(text)):
                if isinstance(node, ast.FunctionDef):
                    self.assertLessEqual(node.end_lineno - node.lineno + 1, 40, node.name)


if __name__ == "__main__":
    unittest.main()
